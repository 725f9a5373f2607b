import Derived.Test.YtffaamljogbmlaaDoorGr00
import Derived.Maps.AppendAt
import Derived.Test.YtffaamljogbmlaaDoorGr03
import Derived.Test.YtffaamljogbmlaaDoorGr04
import Derived.Deep.RegionHeld3
/- What a reading hangs on: the blocks that must stand. -/
namespace Go.Proofs.YtffaamljogbmlaaDoor
open Go.RowKit
set_option linter.unusedVariables false
set_option maxRecDepth 4000

/-- It holds here, and wherever the blocks of D that are here stand as they do. -/
def On (D : Nat → Prop) (w : World) (R : World → Prop) : Prop :=
  ∀ w' : World, w.heap.size ≤ w'.heap.size → (∀ k, k < w.heap.size → D k → w'.heap[k]? = w.heap[k]?) → R w'

theorem On.now {D : Nat → Prop} {w : World} {R : World → Prop} (h : On D w R) : R w := h w (Nat.le_refl _) fun _ _ _ => rfl

theorem On.to {D : Nat → Prop} {w w' : World} {R : World → Prop} (h : On D w R) (hs : w.heap.size ≤ w'.heap.size) (hk : ∀ k, k < w.heap.size → D k → w'.heap[k]? = w.heap[k]?) : On D w' R :=
  fun w2 h2 hk2 => h w2 (Nat.le_trans hs h2) fun k hlt hD => (hk2 k (Nat.lt_of_lt_of_le hlt hs) hD).trans (hk k hlt hD)

theorem On.weaken {D D' : Nat → Prop} {w : World} {R : World → Prop} (h : On D w R) (hD : ∀ k, k < w.heap.size → D k → D' k) : On D' w R :=
  fun w2 h2 hk => h w2 h2 fun k hlt hd => hk k hlt (hD k hlt hd)

theorem On.mono {D : Nat → Prop} {w : World} {R R' : World → Prop} (h : On D w R) (hR : ∀ w', R w' → R' w') : On D w R' := fun w2 h2 hk => hR _ (h w2 h2 hk)

theorem On.below {D : Nat → Prop} {w w' : World} {R : World → Prop} (h : On D w R) (hb : Below w.heap.size w w') : On D w' R := h.to hb.size fun k hlt _ => hb.block k hlt

theorem On.grown {D : Nat → Prop} {w w' : World} {R : World → Prop} {row : Option Nat} (h : On D w R) (hg : w.grownBy w' row) (hD : ∀ k, k < w.heap.size → D k → some k ≠ row) : On D w' R :=
  h.to hg.size fun k hlt hd => hg.block k hlt (hD k hlt hd)

theorem On.set {D : Nat → Prop} {w : World} {R : World → Prop} (h : On D w R) {a : Addr} (ha : ¬ D a.block) (u : Value) : On D (w.setCell a u) R :=
  h.to (by simp [World.setCell]) fun k _ hd => Below.heap_setCell w a u k (fun e => ha (e ▸ hd))

/-- Readings that are kept by whatever leaves all old blocks as they were. -/
theorem on_all {w : World} {R : World → Prop} (h : ∀ w', w.heap.size ≤ w'.heap.size → (∀ k, k < w.heap.size → w'.heap[k]? = w.heap[k]?) → R w') : On (fun _ => True) w R := fun w' hs hk => h w' hs fun k hlt => hk k hlt trivial

theorem cell_kept {w w' : World} {p : Addr} (h : w'.heap[p.block]? = w.heap[p.block]?) : w'.cell? p = w.cell? p := World.cell?_of_block h

/-- The row that the call itself has made hangs on blocks that were made by it. -/
theorem ownsRow_on {B : Nat} {w : World} {e : TypeId} {size : Nat} {v : Value} {n : Nat} {xs : List Value} (h : w.ownsRow B e size v n xs) : On (fun k => v.ownBlock = some k ∧ B ≤ k) w (fun w' => w'.ownsRow B e size v n xs) := by
  intro w' hs hk
  refine ⟨h.1, ?_⟩
  rcases h.2 with hn | ⟨g, cap, cur, rfl, hb, hgg, rest⟩
  · exact .inl hn
  · refine .inr ⟨g, cap, cur, rfl, hb, ?_, rest⟩
    rw [hk g (Array.getElem?_eq_some_iff.1 hgg).1 ⟨rfl, hb⟩]
    exact hgg

theorem ownsRow_ints {B : Nat} {wr : World} {v : Value} {zs : List Int} (hown : wr.ownsRow B 3 1 v zs.length (zs.map (Value.int .i64))) (hl : zs.length ≤ 17592186044416) : Ints wr v zs := by
  have hown0 := hown
  obtain ⟨_, hcase⟩ := hown
  rcases hcase with ⟨rfl, h0⟩ | ⟨g, cap', cur, rfl, hg, hh, hn, hcap, hsz, htake⟩
  · exact ⟨none, zs.length, 0, by rw [h0], rfl, hl, ⟨by omega, by omega, fun _ => rfl⟩, fun j hj => absurd hj (by omega)⟩
  · refine ⟨_, _, _, rfl, rfl, hl, ⟨hn, by unfold maxLen at hcap; omega, fun h => by cases h⟩, fun j hj => ⟨g, 0, rfl, ?_, ?_⟩⟩
    · rcases Nat.lt_or_ge g wr.heap.size with h | h
      · exact h
      · rw [Array.getElem?_eq_none h] at hh; cases hh
    · rw [Nat.zero_add, hown0.cellAt j (by omega)]
      simp [nth, List.getD, List.getElem?_eq_getElem hj]

theorem Own.on {B : Nat} {w wr : World} {v : Value} {zs : List Int} (h : Own B w wr v zs) (hl : zs.length ≤ 17592186044416) : On (fun k => B ≤ k) wr (fun w' => Ints w' v zs) :=
  ((ownsRow_on h.1).weaken fun k _ hk => hk.2).mono fun w' h' => ownsRow_ints h' hl

theorem Own.slice {B : Nat} {w wr : World} {v : Value} {zs : List Int} (h : Own B w wr v zs) : ∃ a l c, v = .slice a l c := by
  rcases h.1.2 with ⟨rfl, _⟩ | ⟨g, cap', cur, rfl, _⟩
  · exact ⟨_, _, _, rfl⟩
  · exact ⟨_, _, _, rfl⟩

theorem ownsRow_slice {B : Nat} {w : World} {e : TypeId} {size : Nat} {v : Value} {n : Nat} {xs : List Value} (h : w.ownsRow B e size v n xs) : ∃ a l c, v = .slice a l c := by
  rcases h.2 with ⟨rfl, _⟩ | ⟨g, cap', cur, rfl, _⟩
  · exact ⟨_, _, _, rfl⟩
  · exact ⟨_, _, _, rfl⟩

theorem ownsRow_lt {B : Nat} {w : World} {e : TypeId} {size : Nat} {v : Value} {n : Nat} {xs : List Value} (h : w.ownsRow B e size v n xs) {k : Nat} (hk : v.ownBlock = some k) : B ≤ k ∧ k < w.heap.size := h.lt k hk

/-- append of one element of several cells onto a row that the call itself has made, where it lies. -/
theorem wp_append_at {P : Program} {o : Oper} {a : Act} {K : Act → World → Prop} {Q : Exit → Act → World → Prop} {Y : Nat → Option Bool} (w : World) (hwt : Region.wanted o Y = true) (s x : Operand) (t : TypeId)
    (ho : o.op = .call { callee := .builtin .append, args := #[s, x], argTypes := #[t, t] })
    (base : Nat) (e : TypeId) (i : TypeInfo) (z : Value) (size bytes : Nat) (ht : P.underlying t = some (.slice e)) (hi : P.info? e = some i) (hz : i.zero = some z)
    (hsize : i.size = size) (hby : i.bytes = bytes) (hzs : z.cells.size = size) (hsz : 0 < size)
    (v : Value) (n : Nat) (xs : List Value) (hs : a.eval s = v) (hown : w.ownsRow base e size v n xs)
    (ad : Addr) (m c : Nat) (news : List Value) (hx : a.eval x = .slice (some ad) m c) (hl : news.length = m * size) (hnews : ∀ j u, news[j]? = some u → w.cell? (ad.add j) = some u) (h1 : ∀ u ∈ news, u.oneCell' = true)
    (h63 : n + m ≤ maxLen) (hbytes : (n + m) * bytes ≤ 140737488355328) (hbase : base ≤ w.heap.size)
    (h : ∀ v' w', w'.ownsRow base e size v' (n + m) (xs ++ news) → w.grownBy w' v.ownBlock → (v'.ownBlock = v.ownBlock ∨ v'.ownBlock = some w.heap.size) → K (a.put o.dst v') w') :
    if Region.wanted o Y = true then Oper.wp P o a w K Q else K (a.put o.dst undef) w := by
  rw [if_pos hwt]
  obtain ⟨v', w', hr, h2, h3, h4, h5⟩ := run_append_own_at (P := P) w base t o.type e i z size bytes ht hi hz hsize hby hzs hsz v n xs hown ad m c news hl hnews h1 h63 hbytes hbase
  unfold Oper.wp execOp
  simp only [ho, resolve, invoke, builtin, Sem.run_bind, Sem.run_pure, Result.andThen_ok, List.map_toArray, List.map_cons, List.map_nil, hs, hx, hr]
  exact h v' w' h2 h3 h5

/-- append of one number, inside a region that draws its order. -/
theorem wpr_append_int {o : Oper} {a : Act} {K : Act → World → Prop} {Q : Exit → Act → World → Prop} {Y : Nat → Option Bool} (hwt : Region.wanted o Y = true) (s x : Operand)
    (ho : o.op = .call { callee := .builtin .append, args := #[s, x], argTypes := #[27, 27] }) (B : Nat) (w wr : World) (v : Value) (zs : List Int) (z : Int) (hG : Own B w wr v zs)
    (hs : a.eval s = v) (hx : a.eval x = .slice (some ⟨wr.heap.size, 0, none⟩) 1 1) (hl : zs.length + 1 ≤ 17592186044416)
    (h : ∀ v' w', Own B w w' v' (zs ++ [z]) → K (a.put o.dst v') w') :
    if Region.wanted o Y = true then Oper.wp Tryd.prog o a (wr.alloc (.cells #[.int .i64 z] 3)) K Q else K (a.put o.dst undef) (wr.alloc (.cells #[.int .i64 z] 3)) := by
  obtain ⟨i0, hi, hz0, hz1, hz2⟩ := info_parts info_int
  obtain ⟨hown, hb, hB⟩ := hG
  refine wp_append_at _ hwt s x 27 ho B 3 i0 (.int .i64 0) 1 8 Tryd.underlying27 hi hz0 hz1 hz2 rfl (by decide) v zs.length _ hs (hown.alloc _) ⟨wr.heap.size, 0, none⟩ 1 1 [.int .i64 z] hx rfl ?_ ?_ ?_ ?_ ?_ ?_
  · intro j u hj
    match j, hj with
    | 0, hj => simp at hj; subst hj; simp [Addr.add]
  · intro u hu; simp at hu; subst hu; rfl
  · unfold maxLen; omega
  · omega
  · simp; omega
  · intro v' w' hown' hgrow _
    refine h v' w' ⟨by simpa using hown', (hb.alloc hB _).grown hgrow (by simp; omega) (fun k hk => (hown.lt k hk).1), ?_⟩
    have := hgrow.size; simp at this; omega

end Go.Proofs.YtffaamljogbmlaaDoor

/- The answers of the document itself for nets, with what they hang on: one fires. -/
namespace Go.Proofs.YtffaamljogbmlaaDoor
open Go.RowKit
set_option linter.unusedVariables false
set_option maxRecDepth 4000

/-- What a call answers that makes a mark anew, or tells what is wrong: the mark hangs on new blocks alone. -/
def GivesO (w : World) (p : List Int × Int) (e : Ending) (w' : World) : Prop :=
  ∃ r, e = .returned (.tuple #[r, .int .i64 p.2]) ∧ On (fun k => w.heap.size ≤ k) w' (fun w'' => Ints w'' r p.1) ∧ Below w.heap.size w w'

theorem givesO_of {w w' : World} {r : Value} {p : List Int × Int} {zs : List Int} {c : Int} (hp : p = (zs, c)) (hr : On (fun k => w.heap.size ≤ k) w' (fun w'' => Ints w'' r zs)) (hb : Below w.heap.size w w') : GivesO w p (.returned (.tuple #[r, .int .i64 c])) w' := by
  subst hp; exact ⟨r, rfl, hr, hb⟩
theorem on_nil (D : Nat → Prop) (w : World) : On D w (fun w' => Ints w' (.slice none 0 0) []) := fun w' _ _ => Ints.nil w'

end Go.Proofs.YtffaamljogbmlaaDoor

/- A row of ints that the call itself made, written at any index. -/
namespace Go.Proofs.YtffaamljogbmlaaDoor
open Go.RowKit
set_option linter.unusedVariables false
set_option maxRecDepth 4000

/-- A row of n ints that the call itself made, at block B, that holds f; nothing older has turned. -/
structure RowAt (B : Nat) (w wr : World) (n : Nat) (f : Nat → Int) : Prop where
  cells : ∀ j, j < n → wr.cell? ⟨B, j, none⟩ = some (.int .i64 (f j))
  frozen : ∀ j, j < n → wr.frozen? ⟨B, j, none⟩ = false
  below : Below B w wr
  size : B < wr.heap.size

theorem RowAt.put {B : Nat} {w wr : World} {n k : Nat} {f g : Nat → Int} (h : RowAt B w wr n f) (hk : k < n) {x : Int} (hx : g k = x) (hg : ∀ j, j < n → j ≠ k → g j = f j) :
    RowAt B w (wr.setCell ⟨B, k, none⟩ (.int .i64 x)) n g := by
  refine ⟨fun j hj => ?_, fun j hj => by rw [World.frozen?_setCell]; exact h.frozen j hj, h.below.setCell (Nat.le_refl _) _, by simpa [World.setCell] using h.size⟩
  by_cases e : j = k
  · subst e
    rw [World.cell?_setCell_same _ _ _ (h.cells j hj), hx]
  · rw [World.cell?_setCell_other _ _ _ _ (by intro q; apply e; injection q with _ q2; exact q2.symm), h.cells j hj, hg j hj e]

theorem RowAt.same {B : Nat} {w wr : World} {n : Nat} {f g : Nat → Int} (h : RowAt B w wr n f) (hg : ∀ j, j < n → g j = f j) : RowAt B w wr n g :=
  ⟨fun j hj => by rw [h.cells j hj, hg j hj], h.frozen, h.below, h.size⟩

theorem RowAt.to {B : Nat} {w wr w2 : World} {n : Nat} {f : Nat → Int} (h : RowAt B w wr n f) (hb : Below wr.heap.size wr w2) : RowAt B w w2 n f :=
  ⟨fun j hj => by rw [hb.cell (p := ⟨B, j, none⟩) h.size]; exact h.cells j hj, fun j hj => by rw [hb.frozen (p := ⟨B, j, none⟩) h.size]; exact h.frozen j hj, h.below.trans (hb.mono (Nat.le_of_lt h.size)), Nat.lt_of_lt_of_le h.size hb.size⟩

theorem RowAt.ints {B : Nat} {w wr : World} {n : Nat} {f : Nat → Int} (h : RowAt B w wr n f) {zs : List Int} (hl : zs.length = n) (hz : ∀ j, j < n → nth zs j = f j) (hn : n ≤ 17592186044416) {cap : Nat} (hc : n ≤ cap) (hc2 : cap ≤ 9223372036854775807) :
    Ints wr (.slice (some ⟨B, 0, none⟩) n cap) zs :=
  ⟨_, _, _, rfl, hl, hn, ⟨hc, hc2, fun h => by cases h⟩, fun j hj => ⟨B, 0, rfl, h.size, by rw [Nat.zero_add, h.cells j (by omega), hz j (by omega)]⟩⟩

theorem rowAt_new {w w1 : World} {n : Nat} (hb : Below w.heap.size w w1) (hs : w.heap.size < w1.heap.size) (hc : ∀ j, j < n → w1.cell? ⟨w.heap.size, j, none⟩ = some (.int .i64 0) ∧ w1.frozen? ⟨w.heap.size, j, none⟩ = false)
    {f : Nat → Int} (hf : ∀ j, j < n → f j = 0) : RowAt w.heap.size w w1 n f :=
  ⟨fun j hj => by rw [hf j hj]; exact (hc j hj).1, fun j hj => (hc j hj).2, hb, hs⟩

theorem RowAt.on {B : Nat} {w wr : World} {n : Nat} {f : Nat → Int} (h : RowAt B w wr n f) {zs : List Int} (hl : zs.length = n) (hz : ∀ j, j < n → nth zs j = f j) (hn : n ≤ 17592186044416) {cap : Nat} (hc : n ≤ cap) (hc2 : cap ≤ 9223372036854775807) :
    On (fun k => B ≤ k) wr (fun w' => Ints w' (.slice (some ⟨B, 0, none⟩) n cap) zs) := by
  intro w' hs hk
  exact ⟨_, _, _, rfl, hl, hn, ⟨hc, hc2, fun h => by cases h⟩, fun j hj => ⟨B, 0, rfl, Nat.lt_of_lt_of_le h.size hs, by rw [Nat.zero_add, World.cell?_of_block (a := ⟨B, j, none⟩) (hk B h.size (Nat.le_refl _)), h.cells j (by omega), hz j (by omega)]⟩⟩

/-- A row of as many as a number says. -/
theorem make_intsZ (w : World) (n : Nat) (z : Int) (hz : z = n) (hn : n ≤ 17592186044416) :
    ∃ w1, (Instr.makeSlice 27 (.int .i64 z) (.int .i64 z)).run Tryd.prog w = .ok (.slice (some ⟨w.heap.size, 0, none⟩) n n) w1 ∧ RowAt w.heap.size w w1 n (fun _ => 0) := by
  subst hz
  obtain ⟨w1, h1, h2, h3, h4⟩ := make_ints w n hn
  exact ⟨w1, h1, rowAt_new h2 h3 h4 fun _ _ => rfl⟩

end Go.Proofs.YtffaamljogbmlaaDoor

/- append of some numbers onto an empty literal: all other blocks stand. -/
namespace Go.Proofs.YtffaamljogbmlaaDoor
open Go.RowKit
set_option linter.unusedVariables false
set_option maxRecDepth 4000

/-- An empty literal at block b. -/
def LitAt (w : World) (b : Nat) : Prop := w.heap[b]? = some (.cells #[] 3 (0, 0))
theorem lit_new (w : World) : LitAt (w.alloc (.cells #[] 3)) w.heap.size := by
  show (w.heap.push _)[w.heap.size]? = _
  simp
theorem LitAt.below {w w' : World} {b : Nat} (h : LitAt w b) (hb : Below w.heap.size w w') : LitAt w' b := (hb.block b (Array.getElem?_eq_some_iff.1 h).1).trans h
/-- All blocks but one stand. -/
structure ButOne (b : Nat) (w w' : World) : Prop where
  size : w.heap.size ≤ w'.heap.size
  block : ∀ k, k < w.heap.size → k ≠ b → w'.heap[k]? = w.heap[k]?
/-- No number is read from an empty literal's block. -/
theorem Ints.butOne {w w' : World} {v : Value} {xs : List Int} {b : Nat} (h : Ints w v xs) (hE : LitAt w b) (hk : ButOne b w w') : Ints w' v xs := by
  obtain ⟨a, len, cap, e, hl, hm, hs, hr⟩ := h
  refine ⟨a, len, cap, e, hl, hm, hs, fun j hj => ?_⟩
  obtain ⟨c, off, ha, hlt, hc⟩ := hr j hj
  have hne : c ≠ b := fun q => by
    subst q
    unfold LitAt at hE
    simp [World.cell?, hE] at hc
  exact ⟨c, off, ha, Nat.lt_of_lt_of_le hlt hk.size, by rw [cell_kept (p := ⟨c, off + j, none⟩) (hk.block c hlt hne)]; exact hc⟩

/-- A row of numbers that the call itself has made, at block g. -/
structure RowG (w : World) (g n cap : Nat) (xs : List Int) : Prop where
  len : xs.length = n
  cap : n ≤ cap ∧ cap ≤ 9223372036854775807 ∧ n ≤ 17592186044416
  lt : g < w.heap.size
  cells : ∀ j, j < n → w.cell? ⟨g, j, none⟩ = some (.int .i64 (nth xs j))
  frozen : ∀ j, w.frozen? ⟨g, j, none⟩ = false
theorem RowG.below {w w' : World} {g n cap : Nat} {xs : List Int} (h : RowG w g n cap xs) (hb : Below w.heap.size w w') : RowG w' g n cap xs :=
  ⟨h.len, h.cap, Nat.lt_of_lt_of_le h.lt hb.size, fun j hj => by rw [hb.cell (p := ⟨g, j, none⟩) h.lt]; exact h.cells j hj, fun j => by rw [hb.frozen (p := ⟨g, j, none⟩) h.lt]; exact h.frozen j⟩
theorem RowG.ints {w : World} {g n cap : Nat} {xs : List Int} (h : RowG w g n cap xs) : Ints w (.slice (some ⟨g, 0, none⟩) n cap) xs :=
  ⟨_, _, _, rfl, h.len, h.cap.2.2, ⟨h.cap.1, h.cap.2.1, fun q => by cases q⟩, fun j hj => ⟨g, 0, rfl, h.lt, by rw [Nat.zero_add]; exact h.cells j (by rw [← h.len]; exact hj)⟩⟩
theorem RowG.put {w : World} {g n cap : Nat} {xs : List Int} (h : RowG w g n cap xs) {k : Nat} (hk : k < n) (x : Int) : RowG (w.setCell ⟨g, k, none⟩ (.int .i64 x)) g n cap (xs.set k x) := by
  refine ⟨by rw [List.length_set]; exact h.len, h.cap, by simpa [World.setCell] using h.lt, fun j hj => ?_, fun j => by rw [World.frozen?_setCell]; exact h.frozen j⟩
  have e : nth (xs.set k x) j = if j = k then x else nth xs j := by
    unfold nth
    rw [List.getD_eq_getElem?_getD, List.getD_eq_getElem?_getD, List.getElem?_set]
    by_cases q : k = j
    · subst q; simp [h.len, hk]
    · rw [if_neg q, if_neg (fun r => q r.symm)]
  rw [e]
  by_cases q : j = k
  · subst q; rw [if_pos rfl]; exact World.cell?_setCell_same _ _ _ (h.cells j hj)
  · rw [if_neg q, World.cell?_setCell_other _ _ _ _ (by intro r; apply q; injection r with _ r; exact r.symm)]; exact h.cells j hj
theorem RowG.set {w : World} {g n cap : Nat} {xs : List Int} (h : RowG w g n cap xs) {p : Addr} (hp : p.block ≠ g) (u : Value) : RowG (w.setCell p u) g n cap xs :=
  ⟨h.len, h.cap, by simpa [World.setCell] using h.lt, fun j hj => by rw [World.cell?_setCell_other _ _ _ _ (by intro r; apply hp; rw [r])]; exact h.cells j hj, fun j => by rw [World.frozen?_setCell]; exact h.frozen j⟩

theorem wpr_append_lit {o : Oper} {a : Act} {K : Act → World → Prop} {Q : Exit → Act → World → Prop} {Y : Nat → Option Bool} (hwt : Region.wanted o Y = true) (s x : Operand)
    (ho : o.op = .call { callee := .builtin .append, args := #[s, x], argTypes := #[27, 27] }) (b : Nat) (wr : World) (ad : Addr) (len cap : Nat) (ys : List Int) (hE : LitAt wr b)
    (hs : a.eval s = .slice (some ⟨b, 0, none⟩) 0 0) (hx : a.eval x = .slice (some ad) len cap) (hu : Ints wr (.slice (some ad) len cap) ys) (hpos : 0 < ys.length)
    (h : ∀ g cap' w', RowG w' g len cap' ys → b ≤ g → ButOne b wr w' → g = b ∨ wr.heap.size ≤ g → (∀ B a, B ≤ b → Below B a wr → Below B a w') → K (a.put o.dst (.slice (some ⟨g, 0, none⟩) len cap')) w') :
    if Region.wanted o Y = true then Oper.wp Tryd.prog o a wr K Q else K (a.put o.dst undef) wr := by
  obtain ⟨i0, hi, hz0, hz1, hz2⟩ := info_parts info_int
  have hown : wr.ownsRow b 3 1 (.slice (some ⟨b, 0, none⟩) 0 0) 0 [] := ⟨rfl, .inr ⟨b, 0, #[], rfl, Nat.le_refl _, hE, Nat.le_refl _, by unfold maxLen; omega, rfl, rfl⟩⟩
  have hblt : b < wr.heap.size := (Array.getElem?_eq_some_iff.1 hE).1
  obtain ⟨a', len', cap', e, hl, hm, hsh, hr⟩ := hu
  injection e with e1 e2 e3
  subst e2 e3
  refine wp_append_at _ hwt s x 27 ho b 3 i0 (.int .i64 0) 1 8 Tryd.underlying27 hi hz0 hz1 hz2 rfl (by decide) _ 0 _ hs hown ad len cap (ys.map (Value.int .i64)) hx (by simp [hl]) ?_ ?_ ?_ ?_ (by omega) ?_
  · intro j c hj
    have hjl : j < ys.length := by
      rcases Nat.lt_or_ge j ys.length with q | q
      · exact q
      · rw [List.getElem?_eq_none (by simpa using q)] at hj; cases hj
    obtain ⟨b1, off, ha, hlt, hc⟩ := hr j hjl
    rw [← e1] at ha
    injection ha with ha
    subst ha
    rw [addr_add, hc]
    rw [List.getElem?_map, List.getElem?_eq_getElem hjl] at hj
    rw [← hj]
    simp [nth, List.getD_eq_getElem?_getD, List.getElem?_eq_getElem hjl]
  · intro c hc
    obtain ⟨y, _, rfl⟩ := List.mem_map.1 hc
    rfl
  · unfold maxLen; omega
  · omega
  · intro v' w' hown' hg hat
    have h0 := hown'
    obtain ⟨_, hc⟩ := hown'
    rcases hc with ⟨_, q⟩ | ⟨g, cap2, cur, rfl, hgb, hh, hn, hcap, hsz, htake⟩
    · omega
    · have hat2 : g = b ∨ wr.heap.size ≤ g := by
        rcases hat with q | q
        · have q : some g = some b := q
          injection q with q; exact .inl q
        · have q : some g = some wr.heap.size := q
          injection q with q; exact .inr (by omega)
      have := h g cap2 w' ⟨hl, ⟨by omega, by unfold maxLen at hcap; omega, hm⟩, (Array.getElem?_eq_some_iff.1 hh).1, fun j hj => ?_, fun j => by simp [World.frozen?, hh]⟩ hgb ⟨hg.size, fun k hk hne => hg.block k hk (fun q => hne (by have q : some k = some b := q; injection q))⟩ hat2 (fun B a hB hba => hba.grown hg (by omega) (fun k hk => by have hk : some b = some k := hk; injection hk with hk; omega))
      · simpa using this
      · have hc2 := h0.cellAt j (by omega)
        rw [hc2]
        rw [List.nil_append, List.getElem?_map, List.getElem?_eq_getElem (by omega : j < ys.length)]
        simp [nth, List.getD_eq_getElem?_getD, List.getElem?_eq_getElem (by omega : j < ys.length)]

end Go.Proofs.YtffaamljogbmlaaDoor

/- Package live as it landed: all marks behind a mark, plainly and in memory. -/
namespace Go.Proofs.YtffaamljogbmlaaDoor
open Go.RowKit
set_option linter.unusedVariables false
set_option maxRecDepth 4000

/-! ### plainly -/
def Goes (nx : List (List Int)) (k j : Nat) : Prop := ∀ P : Nat → Prop, P k → (∀ a b : Nat, P a → (b : Int) ∈ markAt nx a → P b) → P j
theorem Goes.here {nx : List (List Int)} (k : Nat) : Goes nx k k := fun _ h _ => h
theorem Goes.go {nx : List (List Int)} {k a b : Nat} (h : Goes nx k a) (hb : (b : Int) ∈ markAt nx a) : Goes nx k b := fun P h0 h1 => h1 a b (h P h0 h1) hb
theorem Goes.trans {nx : List (List Int)} {k a b : Nat} (h : Goes nx k a) (g : Goes nx a b) : Goes nx k b := fun P h0 h1 => g P (h P h0 h1) h1
def Inside (nx : List (List Int)) (n : Nat) : Prop := ∀ a : Nat, a < n → ∀ z ∈ markAt nx a, 0 ≤ z ∧ z < n
theorem Inside.lt {nx : List (List Int)} {n k j : Nat} (h : Inside nx n) (hk : k < n) (g : Goes nx k j) : j < n := g (fun j => j < n) hk fun a b ha hb => by have := h a ha _ hb; omega
def Shut (nx : List (List Int)) (n : Nat) (f : Nat → Bool) : Prop := ∀ a b : Nat, a < n → f a = true → (b : Int) ∈ markAt nx a → f b = true
theorem Shut.goes {nx : List (List Int)} {n k j : Nat} {f : Nat → Bool} (h : Shut nx n f) (hi : Inside nx n) (hk : k < n) (hf : f k = true) (g : Goes nx k j) : f j = true :=
  (g (fun j => j < n ∧ f j = true) ⟨hk, hf⟩ fun a b ha hb => ⟨by have := hi a ha.1 _ hb; omega, h a b ha.1 ha.2 hb⟩).2
def stepsTo (nx : List (List Int)) (p i a : Nat) : List Int := if a = p then (markAt nx a).take i else markAt nx a

/-- What is noted and what is still to do; of mark p the first i steps are gone. -/
structure Spr (nx : List (List Int)) (n : Nat) (f0 : Nat → Bool) (m : Nat) (f : Nat → Bool) (todo : List Int) (p i : Nat) : Prop where
  grew : ∀ j, f0 j = true → f j = true
  sound : ∀ j, j < n → f j = true → f0 j = true ∨ Goes nx m j
  td : ∀ z ∈ todo, ∃ a : Nat, z = a ∧ a < n ∧ f a = true
  len : todo.length + cntF f n ≤ n
  gone : ∀ a, a < n → f a = true → (a : Int) ∈ todo ∨ ∀ b : Nat, (b : Int) ∈ stepsTo nx p i a → f b = true

section
variable {nx : List (List Int)} {n m p i : Nat} {f0 f : Nat → Bool} {todo : List Int}
theorem Spr.start (h : Shut nx n f0) (m : Nat) : Spr nx n f0 m f0 [] n 0 := by
  refine ⟨fun _ h => h, fun _ _ h => .inl h, fun z hz => (by cases hz), by have := cntF_le f0 n; simpa using this, fun a ha hf => .inr fun b hb => ?_⟩
  unfold stepsTo at hb
  rw [if_neg (by omega)] at hb
  exact h a b ha hf hb
theorem Spr.come (h : Spr nx n f0 m f todo p i) {x : Nat} (hx : x < n) (hf : f x = false) (hg : Goes nx m x) : Spr nx n f0 m (updT f x) (todo ++ [(x : Int)]) p i := by
  refine ⟨fun j hj => updT_grew (h.grew j hj), fun j hj hu => ?_, fun z hz => ?_, ?_, fun a ha hu => ?_⟩
  · by_cases e : j = x
    · subst e; exact .inr hg
    · rw [updT_other f e] at hu; exact h.sound j hj hu
  · rcases List.mem_append.1 hz with q | q
    · obtain ⟨a, e, ha, hfa⟩ := h.td z q
      exact ⟨a, e, ha, updT_grew hfa⟩
    · exact ⟨x, List.mem_singleton.1 q, hx, updT_same f x⟩
  · have := cntF_set hf (updT_same f x) (fun j hj => updT_other f hj) n hx
    have := h.len
    simp only [List.length_append, List.length_singleton]
    omega
  · by_cases e : a = x
    · subst e; exact .inl (List.mem_append_right _ (List.mem_singleton.2 rfl))
    · rw [updT_other f e] at hu
      rcases h.gone a ha hu with q | q
      · exact .inl (List.mem_append_left _ q)
      · exact .inr fun b hb => updT_grew (q b hb)
theorem Spr.pop {t : List Int} {a : Nat} (h : Spr nx n f0 m f (t ++ [(a : Int)]) n 0) : Spr nx n f0 m f t a 0 := by
  refine ⟨h.grew, h.sound, fun z hz => h.td z (List.mem_append_left _ hz), by have := h.len; simp at this; omega, fun c hc hf => ?_⟩
  by_cases e : c = a
  · subst e; exact .inr fun b hb => by simp [stepsTo] at hb
  · rcases h.gone c hc hf with q | q
    · rcases List.mem_append.1 q with q | q
      · exact .inl q
      · have := List.mem_singleton.1 q; omega
    · refine .inr fun b hb => q b ?_
      unfold stepsTo at hb ⊢
      rw [if_neg e] at hb
      rw [if_neg (by omega)]
      exact hb
theorem Spr.next (h : Spr nx n f0 m f todo p i) (hi : i < (markAt nx p).length) (hf : ∀ b : Nat, (b : Int) = nth (markAt nx p) i → f b = true) : Spr nx n f0 m f todo p (i + 1) := by
  refine ⟨h.grew, h.sound, h.td, h.len, fun a ha hfa => ?_⟩
  rcases h.gone a ha hfa with q | q
  · exact .inl q
  · refine .inr fun b hb => ?_
    unfold stepsTo at hb q
    by_cases e : a = p
    · subst e
      simp only [if_true] at hb q
      rw [List.take_succ_eq_append_getElem hi] at hb
      rcases List.mem_append.1 hb with r | r
      · exact q b r
      · refine hf b ?_
        rw [List.mem_singleton.1 r]
        simp [nth, List.getD, List.getElem?_eq_getElem hi]
    · simp only [if_neg e] at hb q
      exact q b hb
theorem Spr.ended (h : Spr nx n f0 m f todo p i) (hi : (markAt nx p).length ≤ i) : Spr nx n f0 m f todo n 0 := by
  refine ⟨h.grew, h.sound, h.td, h.len, fun a ha hfa => ?_⟩
  rcases h.gone a ha hfa with q | q
  · exact .inl q
  · refine .inr fun b hb => q b ?_
    unfold stepsTo at hb ⊢
    rw [if_neg (by omega)] at hb
    split
    · rename_i e; subst e; rw [List.take_of_length_le hi]; exact hb
    · exact hb
/-- What is noted in the end. -/
structure Spread (nx : List (List Int)) (n : Nat) (f0 : Nat → Bool) (m : Nat) (f : Nat → Bool) : Prop where
  shut : Shut nx n f
  mem : ∀ j, j < n → (f j = true ↔ f0 j = true ∨ Goes nx m j)
theorem Spr.done (h : Spr nx n f0 m f [] n 0) (hi : Inside nx n) (hm : m < n) (hf : f m = true) : Spread nx n f0 m f := by
  have hs : Shut nx n f := fun a b ha hfa hb => by
    rcases h.gone a ha hfa with q | q
    · cases q
    · refine q b ?_
      unfold stepsTo
      rw [if_neg (by omega)]
      exact hb
  refine ⟨hs, fun j hj => ⟨h.sound j hj, fun q => ?_⟩⟩
  rcases q with q | q
  · exact h.grew j q
  · exact hs.goes hi hm hf q
end

/-! ### in memory -/
/-- The steps as they are read; they lie in blocks of D. -/
def NextAt (w : World) (D : Nat → Prop) (nv : Value) (nx : List (List Int)) : Prop :=
  ∃ an cn, nv = .slice an nx.length cn ∧ ∀ p, p < nx.length → ∃ b1 o1 au cu, an = some ⟨b1, o1, none⟩ ∧ b1 < w.heap.size ∧ D b1 ∧ w.cell? ⟨b1, o1 + p, none⟩ = some (.slice au (markAt nx p).length cu) ∧
    (markAt nx p).length ≤ 5864062014805 ∧ ∀ k, k < (markAt nx p).length → ∃ b off, au = some ⟨b, off, none⟩ ∧ b < w.heap.size ∧ D b ∧ w.cell? ⟨b, off + k, none⟩ = some (.int .i64 (nth (markAt nx p) k))
theorem NextAt.below {w w' : World} {D : Nat → Prop} {nv : Value} {nx : List (List Int)} (h : NextAt w D nv nx) (hb : Below w.heap.size w w') : NextAt w' D nv nx := by
  obtain ⟨an, cn, e, h⟩ := h
  refine ⟨an, cn, e, fun p hp => ?_⟩
  obtain ⟨b1, o1, au, cu, e1, h1, h2, h3, h4, h5⟩ := h p hp
  refine ⟨b1, o1, au, cu, e1, Nat.lt_of_lt_of_le h1 hb.size, h2, (hb.cell (p := ⟨b1, o1 + p, none⟩) h1).trans h3, h4, fun k hk => ?_⟩
  obtain ⟨b, off, e2, g1, g2, g3⟩ := h5 k hk
  exact ⟨b, off, e2, Nat.lt_of_lt_of_le g1 hb.size, g2, (hb.cell (p := ⟨b, off + k, none⟩) g1).trans g3⟩
theorem NextAt.weak {w : World} {D D' : Nat → Prop} {nv : Value} {nx : List (List Int)} (h : NextAt w D nv nx) (hD : ∀ k, k < w.heap.size → D k → D' k) : NextAt w D' nv nx := by
  obtain ⟨an, cn, e, h⟩ := h
  refine ⟨an, cn, e, fun p hp => ?_⟩
  obtain ⟨b1, o1, au, cu, e1, h1, h2, h3, h4, h5⟩ := h p hp
  refine ⟨b1, o1, au, cu, e1, h1, hD b1 h1 h2, h3, h4, fun k hk => ?_⟩
  obtain ⟨b, off, e2, g1, g2, g3⟩ := h5 k hk
  exact ⟨b, off, e2, g1, hD b g1 g2, g3⟩
theorem NextAt.older {w w' : World} {D : Nat → Prop} {nv : Value} {nx : List (List Int)} {B : Nat} (h : NextAt w D nv nx) (hb : Below w.heap.size w w') (hB : w.heap.size ≤ B) : NextAt w' (fun k => k ≠ B) nv nx :=
  (h.weak fun k hk _ => (by omega : k ≠ B)).below hb
theorem OnlyB.at {w w' : World} {B b off : Nat} (h : OnlyB B w w') (hb : b < w.heap.size) (hne : b ≠ B) : w'.cell? ⟨b, off, none⟩ = w.cell? ⟨b, off, none⟩ := World.cell?_of_block (a := ⟨b, off, none⟩) (h.block b hb hne)
structure SprAt (w : World) (B n bb tb : Nat) (wr : World) (f : Nat → Bool) (tv : Value) (todo : List Int) : Prop where
  row : BoolRow wr B n f
  box : Box1 wr bb (.slice (some ⟨B, 0, none⟩) n n)
  cell : wr.heap[tb]? = some (.cells #[tv] 27 (0, 0))
  own : wr.ownsRow (tb + 1) 3 1 tv todo.length (todo.map (Value.int .i64))
  only : OnlyB B w wr
  hB : B < w.heap.size
  hbb : w.heap.size ≤ bb
  htb : bb < tb
section
variable {w wr : World} {B n bb tb : Nat} {f : Nat → Bool} {tv : Value} {todo : List Int}
theorem SprAt.lt (h : SprAt w B n bb tb wr f tv todo) : tb < wr.heap.size := (Array.getElem?_eq_some_iff.1 h.cell).1
theorem SprAt.tcell (h : SprAt w B n bb tb wr f tv todo) : wr.cell? ⟨tb, 0, none⟩ = some tv ∧ wr.frozen? ⟨tb, 0, none⟩ = false := by
  have hc := h.cell
  constructor
  · simp [World.cell?, hc]
  · simp [World.frozen?, hc]
theorem SprAt.to {w2 : World} (h : SprAt w B n bb tb wr f tv todo) (hb : Below wr.heap.size wr w2) : SprAt w B n bb tb w2 f tv todo :=
  { h with
    row := h.row.below hb
    box := h.box.below hb
    cell := by rw [hb.block tb h.lt]; exact h.cell
    own := ((ownsRow_on h.own).below hb).now
    only := ⟨h.only.below.trans (hb.mono (Nat.le_of_lt (Nat.lt_of_lt_of_le h.hB h.only.size))), Nat.le_trans h.only.size hb.size, fun k hk hne => (hb.block k (Nat.lt_of_lt_of_le hk h.only.size)).trans (h.only.block k hk hne)⟩ }
theorem SprAt.note (h : SprAt w B n bb tb wr f tv todo) {x : Nat} (hx : x < n) : SprAt w B n bb tb (wr.setCell ⟨B, x, none⟩ (.bool true)) (updT f x) tv todo := by
  have hBb : B ≠ bb := by have := h.hB; have := h.hbb; omega
  have hBt : B ≠ tb := by have := h.hB; have := h.hbb; have := h.htb; omega
  refine { h with
    row := h.row.put hx (updT_same f x) (fun j _ hj => updT_other f hj)
    box := ⟨by simpa [World.setCell] using h.box.1, by rw [World.cell?_setCell_other _ _ _ _ (by intro q; injection q with q1 _; exact hBb q1)]; exact h.box.2⟩
    cell := by rw [Below.heap_setCell wr ⟨B, x, none⟩ _ tb (fun e => hBt e.symm)]; exact h.cell
    own := ((ownsRow_on h.own).set (a := ⟨B, x, none⟩) (fun e => by have := e.2; have := h.hB; have := h.hbb; have := h.htb; simp only at *; omega) _).now
    only := h.only.trans (OnlyB.set B x wr _) }
/-- The row of what is to do has grown, and the box holds the new one. -/
theorem SprAt.push {wC : World} {v' : Value} {z : Int} (h : SprAt w B n bb tb wr f tv todo) (hown : wC.ownsRow (tb + 1) 3 1 v' (todo.length + 1) (todo.map (Value.int .i64) ++ [.int .i64 z])) (hg : wr.grownBy wC tv.ownBlock) :
    SprAt w B n bb tb (wC.setCell ⟨tb, 0, none⟩ v') f v' (todo ++ [z]) := by
  have hBt : B < tb := by have := h.hB; have := h.hbb; have := h.htb; omega
  have htl : ∀ k, tv.ownBlock = some k → tb + 1 ≤ k ∧ k < wr.heap.size := fun k hk => ownsRow_lt h.own hk
  have hbg : Below (tb + 1) wr wC := (Below.refl _ _).grown hg (by have := h.lt; omega) (fun k hk => (htl k hk).1)
  have hb2 : Below tb wr (wC.setCell ⟨tb, 0, none⟩ v') := (hbg.mono (Nat.le_succ tb)).setCell (p := ⟨tb, 0, none⟩) (Nat.le_refl _) _
  have hc1 : wC.heap[tb]? = some (.cells #[tv] 27 (0, 0)) := by rw [hbg.block tb (by omega)]; exact h.cell
  refine ⟨⟨fun j hj => ?_, fun j hj => ?_, Nat.lt_of_lt_of_le h.row.lt hb2.size⟩, ⟨Nat.lt_of_lt_of_le h.box.1 hb2.size, ?_⟩, ?_, ?_, ⟨?_, Nat.le_trans h.only.size hb2.size, fun k hk hne => ?_⟩, h.hB, h.hbb, h.htb⟩
  · rw [hb2.cell (p := ⟨B, j, none⟩) hBt]; exact h.row.cells j hj
  · rw [hb2.frozen (p := ⟨B, j, none⟩) hBt]; exact h.row.frozen j hj
  · rw [hb2.cell (p := ⟨bb, 0, none⟩) h.htb]; exact h.box.2
  · rw [setCell_eq_setRow wC tb 0 _ _ _ v' hc1]
    have := setRow_heap wC tb #[tv] (#[tv].setIfInBounds 0 v') 27 (0, 0) hc1
    simpa using this
  · have := ((ownsRow_on hown).set (a := ⟨tb, 0, none⟩) (fun e => by have := e.2; simp only at this; omega) v').now
    simpa using this
  · exact h.only.below.trans (hb2.mono (by omega))
  · rw [hb2.block k (by have := h.hbb; have := h.htb; omega)]; exact h.only.block k hk hne
theorem SprAt.slice (h : SprAt w B n bb tb wr f tv todo) : ∃ a c, tv = .slice a todo.length c := by
  rcases h.own.2 with ⟨e, h0⟩ | ⟨g, cap, cur, e, _⟩
  · exact ⟨none, 0, by rw [h0]; exact e⟩
  · exact ⟨_, _, e⟩
theorem SprAt.grownCell {wC : World} (h : SprAt w B n bb tb wr f tv todo) (hg : wr.grownBy wC tv.ownBlock) : wC.cell? ⟨tb, 0, none⟩ = some tv ∧ wC.frozen? ⟨tb, 0, none⟩ = false := by
  have hc : wC.heap[tb]? = some (.cells #[tv] 27 (0, 0)) := by
    rw [hg.block tb h.lt (fun e => by have := (ownsRow_lt h.own e.symm).1; omega)]; exact h.cell
  constructor
  · simp [World.cell?, hc]
  · simp [World.frozen?, hc]
theorem ownsRow_pop {b : Nat} {t : TypeId} {a : Option Addr} {k c : Nat} {xs : List Value} {y : Value} (h : w.ownsRow b t 1 (.slice a (k + 1) c) (k + 1) (xs ++ [y])) (hl : xs.length = k) : w.ownsRow b t 1 (.slice a k c) k xs := by
  obtain ⟨_, hcase⟩ := h
  refine ⟨by omega, ?_⟩
  rcases hcase with ⟨_, h0⟩ | ⟨g, cap, cur, e, hb, hg, hn, hcap, hsz, htake⟩
  · omega
  · injection e with e1 e2 e3
    subst e1 e3
    refine .inr ⟨g, c, cur, rfl, hb, hg, by omega, hcap, hsz, ?_⟩
    have := congrArg (List.take k) htake
    rw [List.take_take, List.take_left' hl, show min k ((k + 1) * 1) = k by omega] at this
    simpa using this
theorem SprAt.pop {a : Option Addr} {k c : Nat} {t : List Int} {z : Int} (h : SprAt w B n bb tb wr f (.slice a (k + 1) c) (t ++ [z])) (hk : t.length = k) : SprAt w B n bb tb (wr.setCell ⟨tb, 0, none⟩ (.slice a k c)) f (.slice a k c) t := by
  have hBt : B < tb := by have := h.hB; have := h.hbb; have := h.htb; omega
  have hb2 : Below tb wr (wr.setCell ⟨tb, 0, none⟩ (.slice a k c)) := (Below.refl _ _).setCell (p := ⟨tb, 0, none⟩) (Nat.le_refl _) _
  refine ⟨⟨fun j hj => ?_, fun j hj => ?_, Nat.lt_of_lt_of_le h.row.lt hb2.size⟩, ⟨Nat.lt_of_lt_of_le h.box.1 hb2.size, ?_⟩, ?_, ?_, ⟨?_, Nat.le_trans h.only.size hb2.size, fun k hk hne => ?_⟩, h.hB, h.hbb, h.htb⟩
  · rw [hb2.cell (p := ⟨B, j, none⟩) hBt]; exact h.row.cells j hj
  · rw [hb2.frozen (p := ⟨B, j, none⟩) hBt]; exact h.row.frozen j hj
  · rw [hb2.cell (p := ⟨bb, 0, none⟩) h.htb]; exact h.box.2
  · rw [setCell_eq_setRow wr tb 0 _ _ _ _ h.cell]
    have := setRow_heap wr tb #[.slice a (k + 1) c] (#[.slice a (k + 1) c].setIfInBounds 0 (.slice a k c)) 27 (0, 0) h.cell
    simpa using this
  · have h1 : wr.ownsRow (tb + 1) 3 1 (.slice a k c) k (t.map (Value.int .i64)) := by
      have h0 := h.own
      simp only [List.length_append, List.length_singleton, List.map_append, List.map_cons, List.map_nil, hk] at h0
      exact ownsRow_pop h0 (by simpa using hk)
    have := ((ownsRow_on h1).set (a := ⟨tb, 0, none⟩) (fun e => by have := e.2; simp only at this; omega) (.slice a k c)).now
    rw [hk]
    exact this
  · exact h.only.below.trans (hb2.mono (by omega))
  · rw [hb2.block k (by have := h.hbb; have := h.htb; omega)]; exact h.only.block k hk hne
/-- What is to do last. -/
theorem SprAt.last (h : SprAt w B n bb tb wr f tv todo) {t : List Int} {z : Int} (e : todo = t ++ [z]) : ∃ g c, tv = .slice (some ⟨g, 0, none⟩) (t.length + 1) c ∧ t.length + 1 ≤ c ∧ c ≤ maxLen ∧ g < wr.heap.size ∧ wr.cell? ⟨g, t.length, none⟩ = some (.int .i64 z) := by
  subst e
  have hown := h.own
  rcases id hown.2 with ⟨_, h0⟩ | ⟨g, cap, cur, e, hb, hg, hn, hcap, hsz, htake⟩
  · simp at h0
  · refine ⟨g, cap, by simpa using e, by simpa using hn, hcap, (Array.getElem?_eq_some_iff.1 hg).1, ?_⟩
    subst e
    have hc := hown.cellAt t.length (by simp)
    simpa using hc
end

end Go.Proofs.YtffaamljogbmlaaDoor

/- A space while it is built: where it lies, and what it hangs on. -/
namespace Go.Proofs.YtffaamljogbmlaaDoor
open Go.RowKit
set_option linter.unusedVariables false
set_option maxRecDepth 4000

theorem Row.blocks {w w' : World} {a : Option Addr} {xs : List Int} (h : Row w a xs) (hs : w.heap.size ≤ w'.heap.size) (hk : ∀ k, k < w.heap.size → w'.heap[k]? = w.heap[k]?) : Row w' a xs := by
  intro j hj
  obtain ⟨b, off, ha, hlt, hc⟩ := h j hj
  exact ⟨b, off, ha, Nat.lt_of_lt_of_le hlt hs, by rw [World.cell?_of_block (a := ⟨b, off + j, none⟩) (hk b hlt)]; exact hc⟩
theorem ints_old {w : World} {v : Value} {xs : List Int} (h : Ints w v xs) : On (fun k => k < w.heap.size) w (fun w' => Ints w' v xs) := by
  intro w' hs hk
  obtain ⟨a, len, cap, e, hl, hm, hsh, hr⟩ := h
  exact ⟨a, len, cap, e, hl, hm, hsh, hr.blocks hs fun k hlt => hk k hlt hlt⟩

theorem info_ints : (Tryd.prog.info? 27).map (fun i => (i.zero, i.size, i.bytes)) = some (some (.slice none 0 0), 1, 24) := by kernel_rfl
theorem info_arc : (Tryd.prog.info? 76).map (fun i => (i.zero, i.size, i.bytes)) = some (some (.agg #[.int .i64 0, .int .i64 0, .int .i64 0]), 3, 24) := by kernel_rfl

/-- The cells of arcs. -/
def arcCells (l : List ArcL) : List Value := l.flatMap fun a => [.int .i64 (a.frm : Int), .int .i64 (a.tran : Int), .int .i64 (a.dst : Int)]
theorem arcCells_length (l : List ArcL) : (arcCells l).length = l.length * 3 := by
  unfold arcCells
  induction l with
  | nil => rfl
  | cons x r ih => simp only [List.flatMap_cons, List.length_append, ih, List.length_cons, List.length_nil]; omega
theorem arcCells_append (l : List ArcL) (a : ArcL) : arcCells (l ++ [a]) = arcCells l ++ [.int .i64 (a.frm : Int), .int .i64 (a.tran : Int), .int .i64 (a.dst : Int)] := by simp [arcCells]
theorem arcCells_at (l : List ArcL) (j : Nat) (h : j < l.length) :
    (arcCells l)[j * 3]? = some (.int .i64 (l[j].frm : Int)) ∧ (arcCells l)[j * 3 + 1]? = some (.int .i64 (l[j].tran : Int)) ∧ (arcCells l)[j * 3 + 2]? = some (.int .i64 (l[j].dst : Int)) := by
  induction l generalizing j with
  | nil => simp at h
  | cons x r ih =>
    have ec : arcCells (x :: r) = .int .i64 (x.frm : Int) :: .int .i64 (x.tran : Int) :: .int .i64 (x.dst : Int) :: arcCells r := rfl
    match j, h with
    | 0, _ => exact ⟨rfl, rfl, rfl⟩
    | j + 1, h =>
      obtain ⟨q1, q2, q3⟩ := ih j (by simpa using h)
      rw [ec, show (j + 1) * 3 = j * 3 + 3 by omega]
      exact ⟨q1, q2, q3⟩

/-- The space s lies at block x; its two rows are the call's own; the marks hang on none of these, nor on block y. -/
structure SpaceAt (x y B : Nat) (W wr : World) (s : SpaceL) (mv av : Value) (us : List Value) : Prop where
  rowM : wr.ownsRow B 27 1 mv us.length us
  rowA : wr.ownsRow B 76 3 av s.arcs.length (arcCells s.arcs)
  below : Below B W wr
  hx : B ≤ x
  hlt : x < wr.heap.size
  hy : y < B
  c0 : wr.cell? ⟨x, 0, none⟩ = some mv
  c1 : wr.cell? ⟨x, 1, none⟩ = some av
  f0 : wr.frozen? ⟨x, 0, none⟩ = false
  f1 : wr.frozen? ⟨x, 1, none⟩ = false
  apM : mv.ownBlock ≠ some x
  apA : av.ownBlock ≠ some x
  apMA : ∀ k, mv.ownBlock = some k → av.ownBlock ≠ some k
  len : us.length = s.marks.length
  els : ∀ j (hj : j < us.length), us[j].oneCell' = true ∧ On (fun k => k ≠ x ∧ k ≠ y ∧ mv.ownBlock ≠ some k ∧ av.ownBlock ≠ some k) wr (fun w' => Ints w' us[j] (markAt s.marks j))

theorem SpaceAt.to {x y B : Nat} {W wr w' : World} {s : SpaceL} {mv av : Value} {us : List Value} (h : SpaceAt x y B W wr s mv av us) (hb : Below wr.heap.size wr w') : SpaceAt x y B W w' s mv av us :=
  { h with
    rowM := ((ownsRow_on h.rowM).below hb).now
    rowA := ((ownsRow_on h.rowA).below hb).now
    below := h.below.trans (hb.mono (Nat.le_trans h.hx (Nat.le_of_lt h.hlt)))
    hlt := Nat.lt_of_lt_of_le h.hlt hb.size
    c0 := by rw [hb.cell (p := ⟨x, 0, none⟩) h.hlt]; exact h.c0
    c1 := by rw [hb.cell (p := ⟨x, 1, none⟩) h.hlt]; exact h.c1
    f0 := by rw [hb.frozen (p := ⟨x, 0, none⟩) h.hlt]; exact h.f0
    f1 := by rw [hb.frozen (p := ⟨x, 1, none⟩) h.hlt]; exact h.f1
    els := fun j hj => ⟨(h.els j hj).1, (h.els j hj).2.below hb⟩ }

/-- What a row grows by, and a store at block x, leave. -/
theorem grown_set {x : Nat} {w wC : World} {row : Option Nat} (hg : w.grownBy wC row) (a : Addr) (ha : a.block = x) (u : Value) {k : Nat} (hlt : k < w.heap.size) (hk : k ≠ x) (hr : row ≠ some k) :
    (wC.setCell a u).heap[k]? = w.heap[k]? := by
  rw [Below.heap_setCell wC a u k (by rw [ha]; exact hk)]
  exact hg.block k hlt (fun e => hr e.symm)

/-- One more mark. -/
theorem SpaceAt.mark {x y B : Nat} {W wr wC : World} {s : SpaceL} {mv av mv' r : Value} {us : List Value} {z : List Int} (h : SpaceAt x y B W wr s mv av us) (h1 : r.oneCell' = true)
    (hr : On (fun k => k ≠ x ∧ k ≠ y ∧ mv.ownBlock ≠ some k ∧ av.ownBlock ≠ some k) wr (fun w' => Ints w' r z))
    (hown : wC.ownsRow B 27 1 mv' (us.length + 1) (us ++ [r])) (hg : wr.grownBy wC mv.ownBlock) (hat : mv'.ownBlock = mv.ownBlock ∨ mv'.ownBlock = some wr.heap.size) :
    SpaceAt x y B W (wC.setCell ⟨x, 0, none⟩ mv') ⟨s.marks ++ [z], s.arcs⟩ mv' av (us ++ [r]) := by
  have hsz : wr.heap.size ≤ (wC.setCell ⟨x, 0, none⟩ mv').heap.size := Nat.le_trans hg.size (by simp [World.setCell])
  have hM : ∀ k, mv.ownBlock = some k → B ≤ k ∧ k < wr.heap.size := fun k hk => ownsRow_lt h.rowM hk
  have hA : ∀ k, av.ownBlock = some k → B ≤ k ∧ k < wr.heap.size := fun k hk => ownsRow_lt h.rowA hk
  have hcx : wC.heap[x]? = wr.heap[x]? := hg.block x h.hlt (fun e => h.apM e.symm)
  have apM' : mv'.ownBlock ≠ some x := by
    rcases hat with e | e <;> rw [e]
    · exact h.apM
    · have := h.hlt; simp; omega
  have keep : ∀ {R : World → Prop}, On (fun k => k ≠ x ∧ k ≠ y ∧ mv.ownBlock ≠ some k ∧ av.ownBlock ≠ some k) wr R → On (fun k => k ≠ x ∧ k ≠ y ∧ mv'.ownBlock ≠ some k ∧ av.ownBlock ≠ some k) (wC.setCell ⟨x, 0, none⟩ mv') R := by
    intro R hR w2 hs2 hk2
    refine hR w2 (Nat.le_trans hsz hs2) fun k hlt ⟨q1, q2, q3, q4⟩ => ?_
    have q5 : mv'.ownBlock ≠ some k := by
      rcases hat with e | e <;> rw [e]
      · exact q3
      · simp; omega
    rw [hk2 k (Nat.lt_of_lt_of_le hlt hsz) ⟨q1, q2, q5, q4⟩]
    exact grown_set hg ⟨x, 0, none⟩ rfl mv' hlt q1 q3
  refine ⟨?_, ?_, ?_, h.hx, Nat.lt_of_lt_of_le h.hlt hsz, h.hy, ?_, ?_, ?_, ?_, apM', h.apA, ?_, by simp [h.len], fun j hj => ?_⟩
  · have := (ownsRow_on hown).set (a := ⟨x, 0, none⟩) (fun e => apM' e.1) mv'
    simpa using this.now
  · have q := (ownsRow_on h.rowA).to (w' := wC.setCell ⟨x, 0, none⟩ mv') hsz (fun k hlt hk => grown_set hg ⟨x, 0, none⟩ rfl mv' hlt (fun (e : k = x) => h.apA (by rw [← e]; exact hk.1)) (fun e => h.apMA k e hk.1))
    exact q.now
  · exact (h.below.grown hg (Nat.le_trans h.hx (Nat.le_of_lt h.hlt)) (fun k hk => (hM k hk).1)).setCell (p := ⟨x, 0, none⟩) h.hx _
  · exact World.cell?_setCell_same _ _ _ ((World.cell?_of_block (a := ⟨x, 0, none⟩) hcx).trans h.c0)
  · rw [World.cell?_setCell_other _ _ _ _ (by intro q; injection q with _ q2; omega)]; exact (World.cell?_of_block (a := ⟨x, 1, none⟩) hcx).trans h.c1
  · rw [World.frozen?_setCell]; exact (World.frozen?_of_block (a := ⟨x, 0, none⟩) hcx).trans h.f0
  · rw [World.frozen?_setCell]; exact (World.frozen?_of_block (a := ⟨x, 1, none⟩) hcx).trans h.f1
  · intro k hk e
    rcases hat with q | q
    · rw [q] at hk; exact h.apMA k hk e
    · rw [q] at hk; injection hk with hk; have := (hA k e).2; omega
  · by_cases hjl : j < us.length
    · rw [List.getElem_append_left hjl]
      have e : markAt (s.marks ++ [z]) j = markAt s.marks j := markAt_append (by rw [← h.len]; exact hjl)
      exact ⟨(h.els j hjl).1, by show On _ _ (fun w' => Ints w' us[j] (markAt (s.marks ++ [z]) j)); rw [e]; exact keep (h.els j hjl).2⟩
    · have e : j = us.length := by simp at hj; omega
      subst e
      rw [List.getElem_append_right (Nat.le_refl _)]
      simp only [Nat.sub_self, List.getElem_cons_zero]
      refine ⟨h1, ?_⟩
      show On _ _ (fun w' => Ints w' r (markAt (s.marks ++ [z]) us.length))
      rw [h.len, markAt_last]
      exact keep hr

/-- One more arc. -/
theorem SpaceAt.arc {x y B : Nat} {W wr wC : World} {s : SpaceL} {mv av av' : Value} {us : List Value} {a : ArcL} (h : SpaceAt x y B W wr s mv av us)
    (hown : wC.ownsRow B 76 3 av' (s.arcs.length + 1) (arcCells s.arcs ++ [.int .i64 (a.frm : Int), .int .i64 (a.tran : Int), .int .i64 (a.dst : Int)])) (hg : wr.grownBy wC av.ownBlock) (hat : av'.ownBlock = av.ownBlock ∨ av'.ownBlock = some wr.heap.size) :
    SpaceAt x y B W (wC.setCell ⟨x, 1, none⟩ av') ⟨s.marks, s.arcs ++ [a]⟩ mv av' us := by
  have hsz : wr.heap.size ≤ (wC.setCell ⟨x, 1, none⟩ av').heap.size := Nat.le_trans hg.size (by simp [World.setCell])
  have hM : ∀ k, mv.ownBlock = some k → B ≤ k ∧ k < wr.heap.size := fun k hk => ownsRow_lt h.rowM hk
  have hA : ∀ k, av.ownBlock = some k → B ≤ k ∧ k < wr.heap.size := fun k hk => ownsRow_lt h.rowA hk
  have hcx : wC.heap[x]? = wr.heap[x]? := hg.block x h.hlt (fun e => h.apA e.symm)
  have apA' : av'.ownBlock ≠ some x := by
    rcases hat with e | e <;> rw [e]
    · exact h.apA
    · have := h.hlt; simp; omega
  refine ⟨?_, ?_, ?_, h.hx, Nat.lt_of_lt_of_le h.hlt hsz, h.hy, ?_, ?_, ?_, ?_, h.apM, apA', ?_, h.len, fun j hj => ⟨(h.els j hj).1, ?_⟩⟩
  · have q := (ownsRow_on h.rowM).to (w' := wC.setCell ⟨x, 1, none⟩ av') hsz (fun k hlt hk => grown_set hg ⟨x, 1, none⟩ rfl av' hlt (fun (e : k = x) => h.apM (by rw [← e]; exact hk.1)) (h.apMA k hk.1))
    exact q.now
  · have := (ownsRow_on hown).set (a := ⟨x, 1, none⟩) (fun e => apA' e.1) av'
    show World.ownsRow _ B 76 3 av' (s.arcs ++ [a]).length (arcCells (s.arcs ++ [a]))
    rw [arcCells_append]
    simpa using this.now
  · exact (h.below.grown hg (Nat.le_trans h.hx (Nat.le_of_lt h.hlt)) (fun k hk => (hA k hk).1)).setCell (p := ⟨x, 1, none⟩) h.hx _
  · rw [World.cell?_setCell_other _ _ _ _ (by intro q; injection q with _ q2; omega)]; exact (World.cell?_of_block (a := ⟨x, 0, none⟩) hcx).trans h.c0
  · exact World.cell?_setCell_same _ _ _ ((World.cell?_of_block (a := ⟨x, 1, none⟩) hcx).trans h.c1)
  · rw [World.frozen?_setCell]; exact (World.frozen?_of_block (a := ⟨x, 0, none⟩) hcx).trans h.f0
  · rw [World.frozen?_setCell]; exact (World.frozen?_of_block (a := ⟨x, 1, none⟩) hcx).trans h.f1
  · intro k hk e
    rcases hat with q | q
    · rw [q] at e; exact h.apMA k hk e
    · rw [q] at e; injection e with e; have := (hM k hk).2; omega
  · intro w2 hs2 hk2
    refine (h.els j hj).2 w2 (Nat.le_trans hsz hs2) fun k hlt ⟨q1, q2, q3, q4⟩ => ?_
    have q5 : av'.ownBlock ≠ some k := by
      rcases hat with e | e <;> rw [e]
      · exact q4
      · simp; omega
    rw [hk2 k (Nat.lt_of_lt_of_le hlt hsz) ⟨q1, q2, q3, q5⟩]
    exact grown_set hg ⟨x, 1, none⟩ rfl av' hlt q1 q4

/-- Its marks, read. -/
theorem SpaceAt.lists {x y B : Nat} {W wr : World} {s : SpaceL} {mv av : Value} {us : List Value} (h : SpaceAt x y B W wr s mv av us) (hl : us.length ≤ 5864062014805) : Lists wr mv s.marks := by
  have hown := h.rowM
  obtain ⟨_, hcase⟩ := hown
  rcases hcase with ⟨e, h0⟩ | ⟨g, cap', cur, e, hg, hh, hn, hcap, hsz, htake⟩
  · exact ⟨none, us.length, 0, by rw [e, h0], h.len.symm, by omega, ⟨by omega, by omega, fun _ => rfl⟩, fun j hj => absurd hj (by have := h.len; omega)⟩
  · refine ⟨_, us.length, _, e, h.len.symm, by omega, ⟨hn, by unfold maxLen at hcap; omega, fun h => by cases h⟩, fun j hj => ?_⟩
    have hj' : j < us.length := by have := h.len; omega
    refine ⟨g, 0, us[j], rfl, ?_, ?_, (h.els j hj').2.now⟩
    · rcases Nat.lt_or_ge g wr.heap.size with q | q
      · exact q
      · rw [Array.getElem?_eq_none q] at hh; cases hh
    · have hown2 := h.rowM
      rw [e] at hown2
      rw [Nat.zero_add, hown2.cellAt j (by omega), List.getElem?_eq_getElem hj']
theorem SpaceAt.arcsR {x y B : Nat} {W wr : World} {s : SpaceL} {mv av : Value} {us : List Value} (h : SpaceAt x y B W wr s mv av us) (hl : s.arcs.length ≤ 5864062014805) : Arcs wr av (s.arcs.map arcZ) := by
  have hown := h.rowA
  obtain ⟨_, hcase⟩ := hown
  rcases hcase with ⟨e, h0⟩ | ⟨g, cap', cur, e, hg, hh, hn, hcap, hsz, htake⟩
  · exact ⟨none, s.arcs.length, 0, by rw [e, h0], by simp, by omega, ⟨by omega, by omega, fun _ => rfl⟩, fun j hj => absurd hj (by simp; omega)⟩
  · refine ⟨_, s.arcs.length, _, e, by simp, by omega, ⟨hn, by unfold maxLen at hcap; omega, fun h => by cases h⟩, fun j hj => ?_⟩
    have hj' : j < s.arcs.length := by simpa using hj
    have hown2 := h.rowA
    rw [e] at hown2
    obtain ⟨q1, q2, q3⟩ := arcCells_at s.arcs j hj'
    refine ⟨g, 0, rfl, ?_, ?_, ?_, ?_⟩
    · rcases Nat.lt_or_ge g wr.heap.size with q | q
      · exact q
      · rw [Array.getElem?_eq_none q] at hh; cases hh
    · rw [Nat.zero_add, hown2.cellAt (j * 3) (by omega), q1, List.getElem_map]; rfl
    · rw [Nat.zero_add, hown2.cellAt (j * 3 + 1) (by omega), q2, List.getElem_map]; rfl
    · rw [Nat.zero_add, hown2.cellAt (j * 3 + 2) (by omega), q3, List.getElem_map]; rfl

end Go.Proofs.YtffaamljogbmlaaDoor

/- The answers of the document itself for reach: all marks. -/
namespace Go.Proofs.YtffaamljogbmlaaDoor
open Go.RowKit
set_option linter.unusedVariables false
set_option maxRecDepth 4000

theorem SpaceAt.sliceM {x y B : Nat} {W wr : World} {s : SpaceL} {mv av : Value} {us : List Value} (h : SpaceAt x y B W wr s mv av us) : ∃ a cap, mv = .slice a s.marks.length cap := by
  rcases h.rowM.2 with ⟨e, h0⟩ | ⟨g, cap', cur, e, _⟩
  · exact ⟨none, 0, by rw [e, ← h.len, h0]⟩
  · exact ⟨_, _, by rw [e, h.len]⟩
theorem SpaceAt.sliceA {x y B : Nat} {W wr : World} {s : SpaceL} {mv av : Value} {us : List Value} (h : SpaceAt x y B W wr s mv av us) : ∃ a cap, av = .slice a s.arcs.length cap := by
  rcases h.rowA.2 with ⟨e, h0⟩ | ⟨g, cap', cur, e, _⟩
  · exact ⟨none, 0, by rw [e, h0]⟩
  · exact ⟨_, _, e⟩

theorem space_start (W : World) (u : Value) (m : List Int) (y : Nat) (hy : y < W.heap.size) (h1 : u.oneCell' = true) (hu : On (fun k => k ≠ y ∧ k < W.heap.size) W (fun w' => Ints w' u m)) :
    SpaceAt (W.heap.size + 1) y W.heap.size W ((W.alloc (.cells #[u] 27)).alloc (.cells #[.slice (some ⟨W.heap.size, 0, none⟩) 1 1, .slice none 0 0] 72)) ⟨[m], []⟩ (.slice (some ⟨W.heap.size, 0, none⟩) 1 1) (.slice none 0 0) [u] := by
  have b1 := below_new W (.cells #[u] 27)
  have b2 := below_new (W.alloc (.cells #[u] 27)) (.cells #[.slice (some ⟨W.heap.size, 0, none⟩) 1 1, .slice none 0 0] 72)
  have e1 : (W.alloc (.cells #[u] 27)).heap.size = W.heap.size + 1 := by simp
  have hx := box2_new (W.alloc (.cells #[u] 27)) (.slice (some ⟨W.heap.size, 0, none⟩) 1 1) (.slice none 0 0) 72
  rw [e1] at hx
  refine ⟨⟨by simp, .inr ⟨W.heap.size, 1, #[u], rfl, Nat.le_refl _, ?_, by simp, by unfold maxLen; omega, by simp, by simp⟩⟩, World.ownsRow_nil _ _ _ _, below_then b1 b2, by omega, by simp, hy, hx.2.1, hx.2.2, ?_, ?_, ?_, ?_, ?_, by simp, ?_⟩
  · rw [b2.block W.heap.size (by simp)]
    exact heap_alloc_new W _
  · rw [World.frozen?_alloc_at _ _ _ _ (by simp)]
  · rw [World.frozen?_alloc_at _ _ _ _ (by simp)]
  · simp [Value.ownBlock]
  · simp [Value.ownBlock]
  · intro k _; simp [Value.ownBlock]
  · intro j hj
    have e : j = 0 := by simpa using hj
    subst e
    refine ⟨h1, ?_⟩
    have q := (hu.below b1).below b2
    refine q.weaken fun k hlt hk => ⟨by omega, hk.1, ?_, by simp [Value.ownBlock]⟩
    simp [Value.ownBlock]; omega

/-- What is handed back: the space, in the block of the answer. -/
theorem SpaceAt.out {x y B : Nat} {W wr : World} {s : SpaceL} {mv av : Value} {us : List Value} (h : SpaceAt x y B W wr s mv av us) (hl : us.length ≤ 5864062014805) (hl2 : s.arcs.length ≤ 5864062014805) :
    Lists ((wr.setCell ⟨y, 0, none⟩ mv).setCell ⟨y, 1, none⟩ av) mv s.marks ∧ Arcs ((wr.setCell ⟨y, 0, none⟩ mv).setCell ⟨y, 1, none⟩ av) av (s.arcs.map arcZ) := by
  have hy := h.hy
  have hxy : x ≠ y := by have := h.hx; omega
  have hM : ∀ k, mv.ownBlock = some k → B ≤ k := fun k hk => (ownsRow_lt h.rowM hk).1
  have hA : ∀ k, av.ownBlock = some k → B ≤ k := fun k hk => (ownsRow_lt h.rowA hk).1
  have key : ∀ (o : Nat) (u : Value) (w1 : World), SpaceAt x y B w1 w1 s mv av us → SpaceAt x y B (w1.setCell ⟨y, o, none⟩ u) (w1.setCell ⟨y, o, none⟩ u) s mv av us := by
    intro o u w1 g
    have hc : (w1.setCell ⟨y, o, none⟩ u).heap[x]? = w1.heap[x]? := Below.heap_setCell w1 ⟨y, o, none⟩ u x hxy
    exact { g with
      rowM := ((ownsRow_on g.rowM).set (a := ⟨y, o, none⟩) (fun e => by have := hM y e.1; omega) u).now
      rowA := ((ownsRow_on g.rowA).set (a := ⟨y, o, none⟩) (fun e => by have := hA y e.1; omega) u).now
      below := Below.refl _ _
      hlt := by have := g.hlt; simp [World.setCell]; omega
      c0 := (World.cell?_of_block (a := ⟨x, 0, none⟩) hc).trans g.c0
      c1 := (World.cell?_of_block (a := ⟨x, 1, none⟩) hc).trans g.c1
      f0 := (World.frozen?_of_block (a := ⟨x, 0, none⟩) hc).trans g.f0
      f1 := (World.frozen?_of_block (a := ⟨x, 1, none⟩) hc).trans g.f1
      els := fun j hj => ⟨(g.els j hj).1, (g.els j hj).2.set (a := ⟨y, o, none⟩) (fun e => e.2.1 rfl) u⟩ }
  have g0 : SpaceAt x y B wr wr s mv av us := { h with below := Below.refl _ _ }
  have g2 := key 1 av _ (key 0 mv _ g0)
  exact ⟨g2.lists hl, g2.arcsR hl2⟩

theorem wp_append_mark {ops : Array Oper} {rest : List Oper} {o : Oper} {a : Act} {Q : Exit → Act → World → Prop} (hgd : o.guard = none) (s x : Operand)
    (ho : o.op = .call { callee := .builtin .append, args := #[s, x], argTypes := #[69, 69] }) (B : Nat) (wr : World) (v : Value) (us : List Value) (ax : Option Addr) (lx cx : Nat)
    (hown : wr.ownsRow B 27 1 v us.length us) (hs : a.eval s = v) (hx : a.eval x = .slice (some ⟨wr.heap.size, 0, none⟩) 1 1) (hl : us.length + 1 ≤ 5864062014805) (hB : B ≤ wr.heap.size)
    (h : ∀ v' w', w'.ownsRow B 27 1 v' (us.length + 1) (us ++ [.slice ax lx cx]) → (wr.alloc (.cells #[.slice ax lx cx] 27)).grownBy w' v.ownBlock →
      (v'.ownBlock = v.ownBlock ∨ v'.ownBlock = some (wr.alloc (.cells #[.slice ax lx cx] 27)).heap.size) → wpList Tryd.prog ops Q rest (a.put o.dst v') w') :
    wpList Tryd.prog ops Q (o :: rest) a (wr.alloc (.cells #[.slice ax lx cx] 27)) := by
  obtain ⟨i0, hi, hz0, hz1, hz2⟩ := info_parts info_ints
  refine wpList_append_own_at _ hgd s x 69 ho B 27 i0 _ 1 24 Tryd.underlying69 hi hz0 hz1 hz2 rfl (by decide) v us.length _ hs (hown.alloc _) ⟨wr.heap.size, 0, none⟩ 1 1 [.slice ax lx cx] hx rfl (cell_one_new _ _ _) ?_ ?_ ?_ ?_ ?_
  · intro u hu; simp at hu; subst hu; rfl
  · unfold maxLen; omega
  · omega
  · simp; omega
  · intro v' w' h1 h2 _ h3
    exact h v' w' h1 h2 h3

theorem wp_append_arc {ops : Array Oper} {rest : List Oper} {o : Oper} {a : Act} {Q : Exit → Act → World → Prop} (hgd : o.guard = none) (s x : Operand)
    (ho : o.op = .call { callee := .builtin .append, args := #[s, x], argTypes := #[70, 70] }) (B : Nat) (wr : World) (v : Value) (l : List ArcL) (f t g : Int)
    (hown : wr.ownsRow B 76 3 v l.length (arcCells l)) (hs : a.eval s = v) (hx : a.eval x = .slice (some ⟨wr.heap.size, 0, none⟩) 1 1) (hl : l.length + 1 ≤ 5864062014805) (hB : B ≤ wr.heap.size)
    (h : ∀ v' w', w'.ownsRow B 76 3 v' (l.length + 1) (arcCells l ++ [.int .i64 f, .int .i64 t, .int .i64 g]) → (wr.alloc (.cells #[.int .i64 f, .int .i64 t, .int .i64 g] 76)).grownBy w' v.ownBlock →
      (v'.ownBlock = v.ownBlock ∨ v'.ownBlock = some (wr.alloc (.cells #[.int .i64 f, .int .i64 t, .int .i64 g] 76)).heap.size) → wpList Tryd.prog ops Q rest (a.put o.dst v') w') :
    wpList Tryd.prog ops Q (o :: rest) a (wr.alloc (.cells #[.int .i64 f, .int .i64 t, .int .i64 g] 76)) := by
  obtain ⟨i0, hi, hz0, hz1, hz2⟩ := info_parts info_arc
  refine wpList_append_own_at _ hgd s x 70 ho B 76 i0 _ 3 24 Tryd.underlying70 hi hz0 hz1 hz2 rfl (by decide) v l.length _ hs (hown.alloc _) ⟨wr.heap.size, 0, none⟩ 1 1 [.int .i64 f, .int .i64 t, .int .i64 g] hx rfl ?_ ?_ ?_ ?_ ?_ ?_
  · intro j u hj
    rw [addr_add, World.cell?_alloc_at _ _ _ _ rfl]
    match j, hj with
    | 0, hj => simpa using hj
    | 1, hj => simpa using hj
    | 2, hj => simpa using hj
  · intro u hu
    simp only [List.mem_cons, List.not_mem_nil, or_false] at hu
    rcases hu with rfl | rfl | rfl <;> rfl
  · unfold maxLen; omega
  · omega
  · simp; omega
  · intro v' w' h1 h2 _ h3
    exact h v' w' h1 h2 h3

theorem row_none {n : NetL} {most k : Nat} {s : SpaceL} {t : Nat} (h : rowTo n most k s t = none) : ∀ j, rowTo n most k s (t + j) = none := by
  intro j
  induction j with
  | zero => exact h
  | succ j ih => rw [← Nat.add_assoc, rowTo, ih]; rfl
theorem graph_none {n : NetL} {m : List Int} {most k : Nat} (h : graphTo n m most k = none) : ∀ j, graphTo n m most (k + j) = none := by
  intro j
  induction j with
  | zero => exact h
  | succ j ih => rw [← Nat.add_assoc, graphTo, ih]; rfl

/-- What the search among the first j marks has come to. -/
def SeekTo (ms : List (List Int)) (x : List Int) (j : Nat) (z : Int) : Prop := (z = -1 ∧ ∀ i, i < j → markAt ms i ≠ x) ∨ ∃ i, i < j ∧ z = i ∧ markAt ms i = x
theorem seek_done {ms : List (List Int)} {x : List Int} {z : Int} (hn : ms.Nodup) (h : SeekTo ms x ms.length z) : (z = -1 ∧ findM ms x = none) ∨ ∃ i : Nat, i < ms.length ∧ z = i ∧ findM ms x = some i := by
  rcases h with ⟨e, h⟩ | ⟨i, hi, e, h⟩
  · left
    refine ⟨e, ?_⟩
    cases hf : findM ms x with
    | none => rfl
    | some g => obtain ⟨h1, h2⟩ := findM_some hf; exact absurd h2 (h g h1)
  · right
    exact ⟨i, hi, e, by rw [← h]; exact findM_at hn hi⟩
theorem seek_yes {ms : List (List Int)} {x : List Int} {j : Nat} (h : markAt ms j = x) : SeekTo ms x (j + 1) j := .inr ⟨j, by omega, rfl, h⟩
theorem seek_no {ms : List (List Int)} {x : List Int} {j : Nat} {z : Int} (h : SeekTo ms x j z) (hn : markAt ms j ≠ x) : SeekTo ms x (j + 1) z := by
  rcases h with ⟨e, h⟩ | ⟨i, hi, e, h⟩
  · exact .inl ⟨e, fun i hi => by
      by_cases q : i = j
      · subst q; exact hn
      · exact h i (by omega)⟩
  · exact .inr ⟨i, by omega, e, h⟩

/-- What was made behind it hangs on none of its blocks. -/
theorem SpaceAt.fresh {x y B : Nat} {W wr w' : World} {s : SpaceL} {mv av : Value} {us : List Value} (h : SpaceAt x y B W wr s mv av us) {R : World → Prop} (hR : On (fun k => wr.heap.size ≤ k) w' R) :
    On (fun k => k ≠ x ∧ k ≠ y ∧ mv.ownBlock ≠ some k ∧ av.ownBlock ≠ some k) w' R := by
  have h1 := h.hlt
  have h2 := h.hx
  have h3 := h.hy
  refine hR.weaken fun k _ hk => ⟨by omega, by omega, fun e => ?_, fun e => ?_⟩
  · have := ownsRow_lt h.rowM e; omega
  · have := ownsRow_lt h.rowA e; omega

theorem tryT_arcs {n : NetL} {most k t : Nat} {s s' : SpaceL} (e : tryT n most k s t = some s') : s'.arcs.length ≤ s.arcs.length + 1 := by
  unfold tryT at e
  split at e
  · injection e with e; subst e; omega
  · split at e
    · split at e
      · injection e with e; subst e; simp
      · split at e
        · cases e
        · injection e with e; subst e; simp
    · cases e
theorem rowTo_arcs {n : NetL} {most k : Nat} {s : SpaceL} : ∀ (t : Nat) {s' : SpaceL}, rowTo n most k s t = some s' → s'.arcs.length ≤ s.arcs.length + t := by
  intro t
  induction t with
  | zero => intro s' e; injection e with e; subst e; omega
  | succ t ih =>
    intro s' e
    simp only [rowTo, Option.bind_eq_some_iff] at e
    obtain ⟨s1, e1, e2⟩ := e
    have := ih e1
    have := tryT_arcs e2
    omega
theorem graphTo_arcs {n : NetL} {m : List Int} {most : Nat} (hT : n.trans.length ≤ 24) : ∀ (k : Nat) {s : SpaceL}, graphTo n m most k = some s → s.arcs.length ≤ k * 24 := by
  intro k
  induction k with
  | zero => intro s e; injection e with e; subst e; simp
  | succ k ih =>
    intro s e
    simp only [graphTo, Option.bind_eq_some_iff] at e
    obtain ⟨s1, e1, e2⟩ := e
    have h1 := ih e1
    by_cases hk : k < s1.marks.length
    · rw [if_pos hk] at e2
      have := rowTo_arcs _ e2
      omega
    · rw [if_neg hk] at e2
      injection e2 with e2
      subst e2
      omega
theorem fits_trans {n : NetL} {m : List Int} (h : fitsL n m = true) : n.trans.length ≤ 24 := by
  have h1 := (fits_net h).1
  simp only [netOk, headOk, Bool.and_eq_true, decide_eq_true_eq] at h1
  exact h1.1.2

/-- One that fails fails all. -/
theorem graph_fails {n : NetL} {m : List Int} {M k t : Nat} {s s' : SpaceL} (hg : graphTo n m M k = some s) (hk : k < s.marks.length) (hkM : k < M) (hr : rowTo n M k s t = some s') (ht : t < n.trans.length) (hn : tryT n M k s' t = none) : graphTo n m M M = none := by
  have h1 : rowTo n M k s (t + 1) = none := by rw [rowTo, hr]; exact hn
  have h2 := row_none h1 (n.trans.length - (t + 1))
  rw [show t + 1 + (n.trans.length - (t + 1)) = n.trans.length by omega] at h2
  have h3 : graphTo n m M (k + 1) = none := by rw [graphTo, hg]; simp only [Option.bind_some, if_pos hk]; exact h2
  have h4 := graph_none h3 (M - (k + 1))
  rw [show k + 1 + (M - (k + 1)) = M by omega] at h4
  exact h4
theorem tryT_skip {n : NetL} {M k t : Nat} {s : SpaceL} {z : List Int} (h : fireL n (markAt s.marks k) t = (z, 3)) : tryT n M k s t = some s := by
  unfold tryT; rw [h]; rfl
theorem tryT_full {n : NetL} {M k t : Nat} {s : SpaceL} {z : List Int} {cd : Int} (h : fireL n (markAt s.marks k) t = (z, cd)) (h3 : cd ≠ 3) (h0 : cd ≠ 0) : tryT n M k s t = none := by
  unfold tryT; rw [h]; simp [h3, h0]
theorem tryT_old {n : NetL} {M k t g : Nat} {s : SpaceL} {z : List Int} (h : fireL n (markAt s.marks k) t = (z, 0)) (hf : findM s.marks z = some g) : tryT n M k s t = some ⟨s.marks, s.arcs ++ [⟨k, t, g⟩]⟩ := by
  unfold tryT; rw [h]; simp [hf]
theorem tryT_most {n : NetL} {M k t : Nat} {s : SpaceL} {z : List Int} (h : fireL n (markAt s.marks k) t = (z, 0)) (hf : findM s.marks z = none) (hl : s.marks.length = M) : tryT n M k s t = none := by
  unfold tryT; rw [h]; simp [hf, hl]
theorem tryT_new {n : NetL} {M k t : Nat} {s : SpaceL} {z : List Int} (h : fireL n (markAt s.marks k) t = (z, 0)) (hf : findM s.marks z = none) (hl : s.marks.length ≠ M) : tryT n M k s t = some ⟨s.marks ++ [z], s.arcs ++ [⟨k, t, s.marks.length⟩]⟩ := by
  unfold tryT; rw [h]; simp [hf, hl]
theorem row_step {n : NetL} {M k t : Nat} {s s' s2 : SpaceL} (hr : rowTo n M k s t = some s') (h : tryT n M k s' t = some s2) : rowTo n M k s (t + 1) = some s2 := by
  rw [rowTo, hr]; exact h

theorem SpaceAt.afterM {x y B : Nat} {W wr W' wC : World} {s : SpaceL} {mv av : Value} {us : List Value} (h : SpaceAt x y B W wr s mv av us) (hb : Below wr.heap.size wr W') (hg : W'.grownBy wC mv.ownBlock) :
    wC.cell? ⟨x, 0, none⟩ = some mv ∧ wC.frozen? ⟨x, 0, none⟩ = false := by
  have g := h.to hb
  have hc : wC.heap[x]? = W'.heap[x]? := hg.block x g.hlt (fun e => g.apM e.symm)
  exact ⟨(World.cell?_of_block (a := ⟨x, 0, none⟩) hc).trans g.c0, (World.frozen?_of_block (a := ⟨x, 0, none⟩) hc).trans g.f0⟩
theorem SpaceAt.afterA {x y B : Nat} {W wr W' wC : World} {s : SpaceL} {mv av : Value} {us : List Value} (h : SpaceAt x y B W wr s mv av us) (hb : Below wr.heap.size wr W') (hg : W'.grownBy wC av.ownBlock) :
    wC.cell? ⟨x, 1, none⟩ = some av ∧ wC.frozen? ⟨x, 1, none⟩ = false := by
  have g := h.to hb
  have hc : wC.heap[x]? = W'.heap[x]? := hg.block x g.hlt (fun e => g.apA e.symm)
  exact ⟨(World.cell?_of_block (a := ⟨x, 1, none⟩) hc).trans g.c1, (World.frozen?_of_block (a := ⟨x, 1, none⟩) hc).trans g.f1⟩

end Go.Proofs.YtffaamljogbmlaaDoor

/- The marks that are come to from one mark, transition by transition: only those that can fire need be tried. -/
namespace Go.Proofs.YtffaamljogbmlaaDoor
set_option linter.unusedVariables false
set_option maxRecDepth 4000

/-- These transitions are tried at mark k. -/
def rowOn (n : NetL) (M k : Nat) (s : SpaceL) (ts : List Nat) : Option SpaceL := ts.foldlM (tryT n M k) s

theorem rowOn_nil (n : NetL) (M k : Nat) (s : SpaceL) : rowOn n M k s [] = some s := rfl
theorem rowOn_snoc (n : NetL) (M k : Nat) (s : SpaceL) (ts : List Nat) (t : Nat) : rowOn n M k s (ts ++ [t]) = (rowOn n M k s ts).bind fun s' => tryT n M k s' t := by
  unfold rowOn
  rw [List.foldlM_append]
  cases h : ts.foldlM (tryT n M k) s with
  | none => rfl
  | some s' =>
    show ([t].foldlM (tryT n M k) s') = tryT n M k s' t
    rw [List.foldlM_cons]
    cases tryT n M k s' t <;> rfl

theorem rowOn_none {n : NetL} {M k : Nat} {s : SpaceL} {ts : List Nat} {us : List Nat} (h : rowOn n M k s ts = none) : rowOn n M k s (ts ++ us) = none := by
  unfold rowOn at *
  rw [List.foldlM_append, h]
  rfl

theorem tryT_pre {n : NetL} {M k t : Nat} {s s' : SpaceL} (e : tryT n M k s t = some s') : ∃ r, s'.marks = s.marks ++ r := by
  unfold tryT at e
  split at e
  · injection e with e; subst e; exact ⟨[], by simp⟩
  · split at e
    · split at e
      · injection e with e; subst e; exact ⟨[], by simp⟩
      · split at e
        · cases e
        · injection e with e; subst e; exact ⟨_, rfl⟩
    · cases e

theorem rowTo_pre {n : NetL} {M k : Nat} {s : SpaceL} : ∀ (t : Nat) {s' : SpaceL}, rowTo n M k s t = some s' → ∃ r, s'.marks = s.marks ++ r := by
  intro t
  induction t with
  | zero => intro s' e; injection e with e; subst e; exact ⟨[], by simp⟩
  | succ t ih =>
    intro s' e
    simp only [rowTo, Option.bind_eq_some_iff] at e
    obtain ⟨s1, e1, e2⟩ := e
    obtain ⟨r1, h1⟩ := ih e1
    obtain ⟨r2, h2⟩ := tryT_pre e2
    exact ⟨r1 ++ r2, by rw [h2, h1, List.append_assoc]⟩

/-- Those that can fire at m, rising. -/
def canN (n : NetL) (m : List Int) (T : Nat) : List Nat := (List.range T).filter fun t => coversL m (tranAt n.trans t).pre
theorem canTo_canN (n : NetL) (m : List Int) (T : Nat) : canTo n m T = (canN n m T).map fun t => ((t : Nat) : Int) := rfl

theorem rowTo_on {n : NetL} {M k : Nat} {s : SpaceL} (hk : k < s.marks.length) (hf : fitsL n (markAt s.marks k) = true) : ∀ T, T ≤ n.trans.length → rowTo n M k s T = rowOn n M k s (canN n (markAt s.marks k) T) := by
  intro T
  induction T with
  | zero => intro _; rfl
  | succ T ih =>
    intro hT
    have h1 := ih (by omega)
    rw [rowTo]
    unfold canN
    rw [List.range_succ, List.filter_append]
    cases hc : coversL (markAt s.marks k) (tranAt n.trans T).pre with
    | true =>
      rw [show ([T].filter fun t => coversL (markAt s.marks k) (tranAt n.trans t).pre) = [T] by simp [hc]]
      rw [rowOn_snoc, h1]
      rfl
    | false =>
      rw [show ([T].filter fun t => coversL (markAt s.marks k) (tranAt n.trans t).pre) = [] by simp [hc], List.append_nil]
      cases hr : rowTo n M k s T with
      | none => rw [hr] at h1; show none = _; exact h1
      | some s' =>
        rw [hr] at h1
        show tryT n M k s' T = _
        obtain ⟨r, hm⟩ := rowTo_pre T hr
        have hmk : markAt s'.marks k = markAt s.marks k := by rw [hm]; exact markAt_append hk
        have h3 : fireL n (markAt s'.marks k) T = ([], 3) := by
          rw [hmk, fireL, hf]
          simp [hc]
        rw [tryT_skip h3]
        exact h1

/-- How each mark was found first. -/
structure Tied (s : SpaceL) (bys : List ArcL) : Prop where
  len : bys.length = s.marks.length
  dst : ∀ a ∈ s.arcs, a.dst < s.marks.length
  first : ∀ g, 0 < g → g < s.marks.length → firstTo s.arcs g = bys[g]?

theorem tied_start (m : List Int) (a : ArcL) : Tied ⟨[m], []⟩ [a] := ⟨rfl, by simp, fun g h1 h2 => by simp at h2; omega⟩

theorem Tied.old {s : SpaceL} {bys : List ArcL} (h : Tied s bys) {f t g : Nat} (hg : g < s.marks.length) : Tied ⟨s.marks, s.arcs ++ [⟨f, t, g⟩]⟩ bys := by
  refine ⟨h.len, fun a ha => ?_, fun g' h1 h2 => ?_⟩
  · rcases List.mem_append.1 ha with ha | ha
    · exact h.dst a ha
    · rw [List.mem_singleton] at ha; subst ha; exact hg
  · have e := h.first g' h1 h2
    have hb : g' < bys.length := by rw [h.len]; exact h2
    rw [List.getElem?_eq_getElem hb] at e ⊢
    exact firstTo_append e

theorem Tied.new {s : SpaceL} {bys : List ArcL} (h : Tied s bys) (z : List Int) {f t l : Nat} (hl : l = s.marks.length) : Tied ⟨s.marks ++ [z], s.arcs ++ [⟨f, t, l⟩]⟩ (bys ++ [⟨f, t, l⟩]) := by
  subst hl
  refine ⟨by simp [h.len], fun a ha => ?_, fun g' h1 h2 => ?_⟩
  · rcases List.mem_append.1 ha with ha | ha
    · have := h.dst a ha; simp; omega
    · rw [List.mem_singleton] at ha; subst ha; simp
  · by_cases hg : g' < s.marks.length
    · have e := h.first g' h1 hg
      have hb : g' < bys.length := by rw [h.len]; exact hg
      rw [List.getElem?_append_left hb]
      rw [List.getElem?_eq_getElem hb] at e ⊢
      exact firstTo_append e
    · have e : g' = s.marks.length := by simp at h2; omega
      subst e
      have hn : firstTo s.arcs s.marks.length = none := firstTo_none fun a ha => by have := h.dst a ha; omega
      rw [firstTo_new hn rfl, ← h.len, List.getElem?_append_right (Nat.le_refl _)]
      simp

end Go.Proofs.YtffaamljogbmlaaDoor
