import Derived.Test.YtfgimobmaahmmaaGr01
import Derived.Maps.AppendAt
import Derived.Test.YtfgimobmaahmmaaGr04
import Derived.Deep.RegionHeld3
/- What a reading hangs on: the blocks that must stand. -/
namespace Go.Proofs.Ytfgimobmaahmmaa
open Go.RowKit
set_option linter.unusedVariables false
set_option maxRecDepth 4000

/-- It holds here, and wherever the blocks of D that are here stand as they do. -/
def On (D : Nat → Prop) (w : World) (R : World → Prop) : Prop :=
  ∀ w' : World, w.heap.size ≤ w'.heap.size → (∀ k, k < w.heap.size → D k → w'.heap[k]? = w.heap[k]?) → R w'

theorem On.now {D : Nat → Prop} {w : World} {R : World → Prop} (h : On D w R) : R w := h w (Nat.le_refl _) fun _ _ _ => rfl

theorem On.to {D : Nat → Prop} {w w' : World} {R : World → Prop} (h : On D w R) (hs : w.heap.size ≤ w'.heap.size) (hk : ∀ k, k < w.heap.size → D k → w'.heap[k]? = w.heap[k]?) : On D w' R :=
  fun w2 h2 hk2 => h w2 (Nat.le_trans hs h2) fun k hlt hD => (hk2 k (Nat.lt_of_lt_of_le hlt hs) hD).trans (hk k hlt hD)

theorem On.weaken {D D' : Nat → Prop} {w : World} {R : World → Prop} (h : On D w R) (hD : ∀ k, k < w.heap.size → D k → D' k) : On D' w R :=
  fun w2 h2 hk => h w2 h2 fun k hlt hd => hk k hlt (hD k hlt hd)

theorem On.mono {D : Nat → Prop} {w : World} {R R' : World → Prop} (h : On D w R) (hR : ∀ w', R w' → R' w') : On D w R' := fun w2 h2 hk => hR _ (h w2 h2 hk)

theorem On.below {D : Nat → Prop} {w w' : World} {R : World → Prop} (h : On D w R) (hb : Below w.heap.size w w') : On D w' R := h.to hb.size fun k hlt _ => hb.block k hlt

theorem On.grown {D : Nat → Prop} {w w' : World} {R : World → Prop} {row : Option Nat} (h : On D w R) (hg : w.grownBy w' row) (hD : ∀ k, k < w.heap.size → D k → some k ≠ row) : On D w' R :=
  h.to hg.size fun k hlt hd => hg.block k hlt (hD k hlt hd)

theorem On.set {D : Nat → Prop} {w : World} {R : World → Prop} (h : On D w R) {a : Addr} (ha : ¬ D a.block) (u : Value) : On D (w.setCell a u) R :=
  h.to (by simp [World.setCell]) fun k _ hd => Below.heap_setCell w a u k (fun e => ha (e ▸ hd))

/-- Readings that are kept by whatever leaves all old blocks as they were. -/
theorem on_all {w : World} {R : World → Prop} (h : ∀ w', w.heap.size ≤ w'.heap.size → (∀ k, k < w.heap.size → w'.heap[k]? = w.heap[k]?) → R w') : On (fun _ => True) w R := fun w' hs hk => h w' hs fun k hlt => hk k hlt trivial

theorem cell_kept {w w' : World} {p : Addr} (h : w'.heap[p.block]? = w.heap[p.block]?) : w'.cell? p = w.cell? p := World.cell?_of_block h

/-- The row that the call itself has made hangs on blocks that were made by it. -/
theorem ownsRow_on {B : Nat} {w : World} {e : TypeId} {size : Nat} {v : Value} {n : Nat} {xs : List Value} (h : w.ownsRow B e size v n xs) : On (fun k => v.ownBlock = some k ∧ B ≤ k) w (fun w' => w'.ownsRow B e size v n xs) := by
  intro w' hs hk
  refine ⟨h.1, ?_⟩
  rcases h.2 with hn | ⟨g, cap, cur, rfl, hb, hgg, rest⟩
  · exact .inl hn
  · refine .inr ⟨g, cap, cur, rfl, hb, ?_, rest⟩
    rw [hk g (Array.getElem?_eq_some_iff.1 hgg).1 ⟨rfl, hb⟩]
    exact hgg

theorem ownsRow_ints {B : Nat} {wr : World} {v : Value} {zs : List Int} (hown : wr.ownsRow B 3 1 v zs.length (zs.map (Value.int .i64))) (hl : zs.length ≤ 17592186044416) : Ints wr v zs := by
  have hown0 := hown
  obtain ⟨_, hcase⟩ := hown
  rcases hcase with ⟨rfl, h0⟩ | ⟨g, cap', cur, rfl, hg, hh, hn, hcap, hsz, htake⟩
  · exact ⟨none, zs.length, 0, by rw [h0], rfl, hl, ⟨by omega, by omega, fun _ => rfl⟩, fun j hj => absurd hj (by omega)⟩
  · refine ⟨_, _, _, rfl, rfl, hl, ⟨hn, by unfold maxLen at hcap; omega, fun h => by cases h⟩, fun j hj => ⟨g, 0, rfl, ?_, ?_⟩⟩
    · rcases Nat.lt_or_ge g wr.heap.size with h | h
      · exact h
      · rw [Array.getElem?_eq_none h] at hh; cases hh
    · rw [Nat.zero_add, hown0.cellAt j (by omega)]
      simp [nth, List.getD, List.getElem?_eq_getElem hj]

theorem Own.on {B : Nat} {w wr : World} {v : Value} {zs : List Int} (h : Own B w wr v zs) (hl : zs.length ≤ 17592186044416) : On (fun k => B ≤ k) wr (fun w' => Ints w' v zs) :=
  ((ownsRow_on h.1).weaken fun k _ hk => hk.2).mono fun w' h' => ownsRow_ints h' hl

theorem Own.slice {B : Nat} {w wr : World} {v : Value} {zs : List Int} (h : Own B w wr v zs) : ∃ a l c, v = .slice a l c := by
  rcases h.1.2 with ⟨rfl, _⟩ | ⟨g, cap', cur, rfl, _⟩
  · exact ⟨_, _, _, rfl⟩
  · exact ⟨_, _, _, rfl⟩

theorem ownsRow_slice {B : Nat} {w : World} {e : TypeId} {size : Nat} {v : Value} {n : Nat} {xs : List Value} (h : w.ownsRow B e size v n xs) : ∃ a l c, v = .slice a l c := by
  rcases h.2 with ⟨rfl, _⟩ | ⟨g, cap', cur, rfl, _⟩
  · exact ⟨_, _, _, rfl⟩
  · exact ⟨_, _, _, rfl⟩

theorem ownsRow_lt {B : Nat} {w : World} {e : TypeId} {size : Nat} {v : Value} {n : Nat} {xs : List Value} (h : w.ownsRow B e size v n xs) {k : Nat} (hk : v.ownBlock = some k) : B ≤ k ∧ k < w.heap.size := h.lt k hk

/-- append of one element of several cells onto a row that the call itself has made, where it lies. -/
theorem wp_append_at {P : Program} {o : Oper} {a : Act} {K : Act → World → Prop} {Q : Exit → Act → World → Prop} {Y : Nat → Option Bool} (w : World) (hwt : Region.wanted o Y = true) (s x : Operand) (t : TypeId)
    (ho : o.op = .call { callee := .builtin .append, args := #[s, x], argTypes := #[t, t] })
    (base : Nat) (e : TypeId) (i : TypeInfo) (z : Value) (size bytes : Nat) (ht : P.underlying t = some (.slice e)) (hi : P.info? e = some i) (hz : i.zero = some z)
    (hsize : i.size = size) (hby : i.bytes = bytes) (hzs : z.cells.size = size) (hsz : 0 < size)
    (v : Value) (n : Nat) (xs : List Value) (hs : a.eval s = v) (hown : w.ownsRow base e size v n xs)
    (ad : Addr) (m c : Nat) (news : List Value) (hx : a.eval x = .slice (some ad) m c) (hl : news.length = m * size) (hnews : ∀ j u, news[j]? = some u → w.cell? (ad.add j) = some u) (h1 : ∀ u ∈ news, u.oneCell' = true)
    (h63 : n + m ≤ maxLen) (hbytes : (n + m) * bytes ≤ 140737488355328) (hbase : base ≤ w.heap.size)
    (h : ∀ v' w', w'.ownsRow base e size v' (n + m) (xs ++ news) → w.grownBy w' v.ownBlock → (v'.ownBlock = v.ownBlock ∨ v'.ownBlock = some w.heap.size) → K (a.put o.dst v') w') :
    if Region.wanted o Y = true then Oper.wp P o a w K Q else K (a.put o.dst undef) w := by
  rw [if_pos hwt]
  obtain ⟨v', w', hr, h2, h3, h4, h5⟩ := run_append_own_at (P := P) w base t o.type e i z size bytes ht hi hz hsize hby hzs hsz v n xs hown ad m c news hl hnews h1 h63 hbytes hbase
  unfold Oper.wp execOp
  simp only [ho, resolve, invoke, builtin, Sem.run_bind, Sem.run_pure, Result.andThen_ok, List.map_toArray, List.map_cons, List.map_nil, hs, hx, hr]
  exact h v' w' h2 h3 h5

/-- append of one number, inside a region that draws its order. -/
theorem wpr_append_int {o : Oper} {a : Act} {K : Act → World → Prop} {Q : Exit → Act → World → Prop} {Y : Nat → Option Bool} (hwt : Region.wanted o Y = true) (s x : Operand)
    (ho : o.op = .call { callee := .builtin .append, args := #[s, x], argTypes := #[35, 35] }) (B : Nat) (w wr : World) (v : Value) (zs : List Int) (z : Int) (hG : Own B w wr v zs)
    (hs : a.eval s = v) (hx : a.eval x = .slice (some ⟨wr.heap.size, 0, none⟩) 1 1) (hl : zs.length + 1 ≤ 17592186044416)
    (h : ∀ v' w', Own B w w' v' (zs ++ [z]) → K (a.put o.dst v') w') :
    if Region.wanted o Y = true then Oper.wp Try.prog o a (wr.alloc (.cells #[.int .i64 z] 3)) K Q else K (a.put o.dst undef) (wr.alloc (.cells #[.int .i64 z] 3)) := by
  obtain ⟨i0, hi, hz0, hz1, hz2⟩ := info_parts info_int
  obtain ⟨hown, hb, hB⟩ := hG
  refine wp_append_at _ hwt s x 35 ho B 3 i0 (.int .i64 0) 1 8 Try.underlying35 hi hz0 hz1 hz2 rfl (by decide) v zs.length _ hs (hown.alloc _) ⟨wr.heap.size, 0, none⟩ 1 1 [.int .i64 z] hx rfl ?_ ?_ ?_ ?_ ?_ ?_
  · intro j u hj
    match j, hj with
    | 0, hj => simp at hj; subst hj; simp [Addr.add]
  · intro u hu; simp at hu; subst hu; rfl
  · unfold maxLen; omega
  · omega
  · simp; omega
  · intro v' w' hown' hgrow _
    refine h v' w' ⟨by simpa using hown', (hb.alloc hB _).grown hgrow (by simp; omega) (fun k hk => (hown.lt k hk).1), ?_⟩
    have := hgrow.size; simp at this; omega

end Go.Proofs.Ytfgimobmaahmmaa

/- Plain words for what knots hold in memory; a store into a row that the call itself has made. -/
namespace Go.Proofs.Ytfgimobmaahmmaa
open Go.RowKit
set_option linter.unusedVariables false
set_option maxRecDepth 4000

def noKnotL : KnotL := ⟨0, 0, []⟩
def knotOf (l : List KnotL) (k : Nat) : KnotL := l.getD k noKnotL
theorem knotOf_map {s : List KnotX} {k : Nat} (h : k < s.length) : knotOf (s.map KnotX.knot) k = (knotAt s k).knot := by
  rw [knotOf, List.getD_eq_getElem?_getD, List.getElem?_map, knotAt, List.getD_eq_getElem?_getD, List.getElem?_eq_getElem h]; rfl
theorem knotOf_get {l : List KnotL} {k : Nat} (h : k < l.length) : knotOf l k = l[k] := by
  rw [knotOf, List.getD_eq_getElem?_getD, List.getElem?_eq_getElem h]; rfl

/-- A slice of knots: two numbers and a mark each. -/
def Knots (w : World) (v : Value) (l : List KnotL) : Prop :=
  ∃ a len cap, v = .slice a len cap ∧ l.length = len ∧ len ≤ 2513169434916 ∧ Shape a len cap ∧
    ∀ j, j < l.length → ∃ b off u, a = some ⟨b, off, none⟩ ∧ b < w.heap.size ∧ w.cell? ⟨b, off + j * 3, none⟩ = some (.int .i64 (knotOf l j).up) ∧
      w.cell? ⟨b, off + j * 3 + 1, none⟩ = some (.int .i64 (knotOf l j).tran) ∧ w.cell? ⟨b, off + j * 3 + 2, none⟩ = some u ∧ Ints w u (knotOf l j).mark

theorem Knots.below {w w' : World} {v : Value} {l : List KnotL} (h : Knots w v l) (hb : Below w.heap.size w w') : Knots w' v l := by
  obtain ⟨a, len, cap, e, hl, hm, hs, hr⟩ := h
  refine ⟨a, len, cap, e, hl, hm, hs, fun j hj => ?_⟩
  obtain ⟨b, off, u, ha, hlt, h0, h1, h2, hi⟩ := hr j hj
  exact ⟨b, off, u, ha, Nat.lt_of_lt_of_le hlt hb.size, by rw [hb.cell (p := ⟨b, _, none⟩) hlt]; exact h0, by rw [hb.cell (p := ⟨b, _, none⟩) hlt]; exact h1, by rw [hb.cell (p := ⟨b, _, none⟩) hlt]; exact h2, hi.below hb⟩
theorem Knots.at {w : World} {a : Option Addr} {len cap : Nat} {l : List KnotL} (h : Knots w (.slice a len cap) l) {k : Nat} (hk : k < len) :
    ∃ b off u, a = some ⟨b, off, none⟩ ∧ b < w.heap.size ∧ w.cell? ⟨b, off + k * 3, none⟩ = some (.int .i64 (knotOf l k).up) ∧
      w.cell? ⟨b, off + k * 3 + 1, none⟩ = some (.int .i64 (knotOf l k).tran) ∧ w.cell? ⟨b, off + k * 3 + 2, none⟩ = some u ∧ Ints w u (knotOf l k).mark := by
  obtain ⟨a', len', cap', e, hl, hm, hs, hr⟩ := h
  injection e with e1 e2 e3
  subst e1 e2 e3
  exact hr k (by omega)
theorem Knots.slice {w : World} {v : Value} {l : List KnotL} (h : Knots w v l) : ∃ a cap, v = .slice a l.length cap ∧ l.length ≤ 2513169434916 ∧ Shape a l.length cap := by
  obtain ⟨a, len, cap, e, hl, hm, hs, hr⟩ := h
  subst hl
  exact ⟨a, cap, e, hm, hs⟩
theorem Knots.nil (w : World) : Knots w (.slice none 0 0) [] := ⟨none, 0, 0, rfl, rfl, by omega, ⟨by omega, by omega, fun _ => rfl⟩, fun j hj => absurd hj (by simp)⟩

/-- What a call answers that makes a tree, or tells what is wrong. -/
def GivesK (w : World) (p : List KnotL × Int) (e : Ending) (w' : World) : Prop := ∃ r, e = .returned (.tuple #[r, .int .i64 p.2]) ∧ Knots w' r p.1 ∧ Below w.heap.size w w'
theorem givesK_of {w w' : World} {r : Value} {p : List KnotL × Int} {l : List KnotL} {c : Int} (hp : p = (l, c)) (hr : Knots w' r l) (hb : Below w.heap.size w w') : GivesK w p (.returned (.tuple #[r, .int .i64 c])) w' := by
  subst hp; exact ⟨r, rfl, hr, hb⟩

theorem setCell_blockK {w : World} {g off : Nat} {cur : Array Value} {e : TypeId} (h : w.heap[g]? = some (.cells cur e (0, 0))) (u : Value) : (w.setCell ⟨g, off, none⟩ u).heap[g]? = some (.cells (cur.setIfInBounds off u) e (0, 0)) := by
  have hlt : g < w.heap.size := (Array.getElem?_eq_some_iff.1 h).1
  have h' : w.heap[g] = .cells cur e (0, 0) := (Array.getElem?_eq_some_iff.1 h).2
  show (w.heap.modify g _)[g]? = _
  rw [Array.getElem?_eq_getElem (by simpa using hlt), Array.getElem_modify_self, h']
  rfl

/-- A store into a row that the call itself has made. -/
theorem ownsRow_set {B : Nat} {w : World} {e : TypeId} {g n cap : Nat} {xs : List Value} (h : w.ownsRow B e 1 (.slice (some ⟨g, 0, none⟩) n cap) n xs) {j : Nat} (hj : j < n) (u : Value) :
    (w.setCell ⟨g, j, none⟩ u).ownsRow B e 1 (.slice (some ⟨g, 0, none⟩) n cap) n (xs.set j u) := by
  obtain ⟨h1, h2⟩ := h
  refine ⟨by simpa using h1, ?_⟩
  rcases h2 with ⟨e1, _⟩ | ⟨g', cap', cur, e1, hg, hh, r1, r2, r3, r4⟩
  · cases e1
  · injection e1 with e2 e3 e4
    injection e2 with e2
    injection e2 with e2
    subst e2 e4
    refine .inr ⟨g, cap, cur.setIfInBounds j u, rfl, hg, setCell_blockK hh u, r1, r2, by simpa using r3, ?_⟩
    rw [Array.toList_setIfInBounds, ← r4, List.take_set]

theorem Own.put {B : Nat} {w wr : World} {g n cap : Nat} {zs : List Int} (h : Own B w wr (.slice (some ⟨g, 0, none⟩) n cap) zs) (hn : zs.length = n) {j : Nat} (hj : j < n) (x : Int) :
    Own B w (wr.setCell ⟨g, j, none⟩ (.int .i64 x)) (.slice (some ⟨g, 0, none⟩) n cap) (zs.set j x) := by
  obtain ⟨h1, h2, h3⟩ := h
  have hB : B ≤ g := (ownsRow_lt h1 (k := g) rfl).1
  have h1' := h1
  rw [hn] at h1'
  refine ⟨?_, h2.setCell (p := ⟨g, j, none⟩) hB _, by simpa [World.setCell] using h3⟩
  have := ownsRow_set h1' hj (.int .i64 x)
  rw [List.length_set, hn, List.map_set]
  exact this
theorem Own.cell {B : Nat} {w wr : World} {g n cap : Nat} {zs : List Int} (h : Own B w wr (.slice (some ⟨g, 0, none⟩) n cap) zs) (hn : zs.length = n) {j : Nat} (hj : j < n) :
    wr.cell? ⟨g, j, none⟩ = some (.int .i64 (nth zs j)) ∧ wr.frozen? ⟨g, j, none⟩ = false ∧ g < wr.heap.size := by
  have h1 := h.1
  rw [hn] at h1
  have hc := h1.cellAt j (by omega)
  obtain ⟨_, hk⟩ := h.1
  rcases hk with ⟨e1, _⟩ | ⟨g', cap', cur, e1, hg, hh, _⟩
  · cases e1
  · injection e1 with e2 e3 e4
    injection e2 with e2
    injection e2 with e2
    subst e2
    refine ⟨by rw [hc]; simp [nth, List.getD, List.getElem?_eq_getElem (show j < zs.length by omega)], by simp [World.frozen?, hh], (Array.getElem?_eq_some_iff.1 hh).1⟩

end Go.Proofs.Ytfgimobmaahmmaa

/- A tree while it is built: where it lies, and what it hangs on. -/
namespace Go.Proofs.Ytfgimobmaahmmaa
open Go.RowKit
set_option linter.unusedVariables false
set_option maxRecDepth 4000

def valAt (l : List Value) (j : Nat) : Value := l.getD j undef
theorem valAt_append {l r : List Value} {k : Nat} (h : k < l.length) : valAt (l ++ r) k = valAt l k := by
  rw [valAt, valAt, List.getD_eq_getElem?_getD, List.getD_eq_getElem?_getD, List.getElem?_append_left h]
theorem valAt_last (l : List Value) (x : Value) : valAt (l ++ [x]) l.length = x := by
  rw [valAt, List.getD_eq_getElem?_getD, List.getElem?_append_right (Nat.le_refl _)]; simp
theorem valAt_get {l : List Value} {k : Nat} (h : k < l.length) : l[k]? = some (valAt l k) := by
  rw [valAt, List.getD_eq_getElem?_getD, List.getElem?_eq_getElem h]; rfl
def valsAt (l : List (List Value)) (j : Nat) : List Value := l.getD j []
theorem valsAt_append {l r : List (List Value)} {k : Nat} (h : k < l.length) : valsAt (l ++ r) k = valsAt l k := by
  rw [valsAt, valsAt, List.getD_eq_getElem?_getD, List.getD_eq_getElem?_getD, List.getElem?_append_left h]
theorem valsAt_last (l : List (List Value)) (x : List Value) : valsAt (l ++ [x]) l.length = x := by
  rw [valsAt, List.getD_eq_getElem?_getD, List.getElem?_append_right (Nat.le_refl _)]; simp

/-- Three cells each. -/
def triTo (f g h : Nat → Value) : Nat → List Value
  | 0 => []
  | n + 1 => triTo f g h n ++ [f n, g n, h n]
theorem triTo_length (f g h : Nat → Value) : ∀ n, (triTo f g h n).length = n * 3
  | 0 => rfl
  | n + 1 => by rw [triTo, List.length_append, triTo_length f g h n]; simp; omega
theorem triTo_congr {f g h f' g' h' : Nat → Value} : ∀ {n : Nat}, (∀ j, j < n → f j = f' j ∧ g j = g' j ∧ h j = h' j) → triTo f g h n = triTo f' g' h' n
  | 0, _ => rfl
  | n + 1, e => by
    obtain ⟨e1, e2, e3⟩ := e n (by omega)
    rw [triTo, triTo, triTo_congr fun j hj => e j (by omega), e1, e2, e3]
theorem triTo_at (f g h : Nat → Value) : ∀ {n j : Nat}, j < n → (triTo f g h n)[j * 3]? = some (f j) ∧ (triTo f g h n)[j * 3 + 1]? = some (g j) ∧ (triTo f g h n)[j * 3 + 2]? = some (h j)
  | 0, j, hj => by omega
  | n + 1, j, hj => by
    have hl := triTo_length f g h n
    rw [triTo]
    by_cases e : j < n
    · obtain ⟨q1, q2, q3⟩ := triTo_at f g h e
      rw [List.getElem?_append_left (by omega), List.getElem?_append_left (by omega), List.getElem?_append_left (by omega)]
      exact ⟨q1, q2, q3⟩
    · have e : j = n := by omega
      subst e
      rw [List.getElem?_append_right (by omega), List.getElem?_append_right (by omega), List.getElem?_append_right (by omega), hl]
      have k1 : j * 3 - j * 3 = 0 := by omega
      have k2 : j * 3 + 1 - j * 3 = 1 := by omega
      have k3 : j * 3 + 2 - j * 3 = 2 := by omega
      rw [k1, k2, k3]
      exact ⟨rfl, rfl, rfl⟩

def knotCells (s : List KnotX) (ms : List Value) : List Value := triTo (fun j => .int .i64 (knotAt s j).up) (fun j => .int .i64 (knotAt s j).tran) (valAt ms) s.length
theorem knotCells_append (s : List KnotX) (ms : List Value) (x : KnotX) (v : Value) (hl : ms.length = s.length) : knotCells (s ++ [x]) (ms ++ [v]) = knotCells s ms ++ [.int .i64 x.up, .int .i64 x.tran, v] := by
  unfold knotCells
  rw [List.length_append]
  show triTo _ _ _ (s.length + 1) = _
  rw [triTo, knotAt_last]
  rw [triTo_congr (f' := fun j => .int .i64 (knotAt s j).up) (g' := fun j => .int .i64 (knotAt s j).tran) (h' := valAt ms) (fun j hj => by rw [knotAt_append hj, valAt_append (by omega)]; exact ⟨rfl, rfl, rfl⟩)]
  rw [← hl, valAt_last]

/-- A slice of these slices, whose elements are these values. -/
def ListsV (w : World) (v : Value) (us : List Value) (ls : List (List Int)) : Prop :=
  ∃ a len cap, v = .slice a len cap ∧ us.length = len ∧ ls.length = len ∧ Shape a len cap ∧
    ∀ j, j < len → ∃ b off, a = some ⟨b, off, none⟩ ∧ b < w.heap.size ∧ w.cell? ⟨b, off + j, none⟩ = some (valAt us j) ∧ (valAt us j).oneCell' = true ∧ Ints w (valAt us j) (markAt ls j)
theorem ListsV.lists {w : World} {v : Value} {us : List Value} {ls : List (List Int)} (h : ListsV w v us ls) (hl : ls.length ≤ 5864062014805) : Lists w v ls := by
  obtain ⟨a, len, cap, e, h1, h2, h3, h4⟩ := h
  refine ⟨a, len, cap, e, h2, by omega, h3, fun j hj => ?_⟩
  obtain ⟨b, off, q1, q2, q3, _, q4⟩ := h4 j (by omega)
  exact ⟨b, off, valAt us j, q1, q2, q3, q4⟩
theorem ListsV.nil (w : World) : ListsV w (.slice none 0 0) [] [] := ⟨none, 0, 0, rfl, rfl, rfl, ⟨by omega, by omega, fun _ => rfl⟩, fun j hj => absurd hj (by omega)⟩

/-- Apart from both rows. -/
def Off (ov lv : Value) (b : Nat) : Prop := ov.ownBlock ≠ some b ∧ lv.ownBlock ≠ some b

end Go.Proofs.Ytfgimobmaahmmaa

/- A space while it is built: where it lies, and what it hangs on. -/
namespace Go.Proofs.Ytfgimobmaahmmaa
open Go.RowKit
set_option linter.unusedVariables false
set_option maxRecDepth 4000

theorem Row.blocks {w w' : World} {a : Option Addr} {xs : List Int} (h : Row w a xs) (hs : w.heap.size ≤ w'.heap.size) (hk : ∀ k, k < w.heap.size → w'.heap[k]? = w.heap[k]?) : Row w' a xs := by
  intro j hj
  obtain ⟨b, off, ha, hlt, hc⟩ := h j hj
  exact ⟨b, off, ha, Nat.lt_of_lt_of_le hlt hs, by rw [World.cell?_of_block (a := ⟨b, off + j, none⟩) (hk b hlt)]; exact hc⟩
theorem ints_old {w : World} {v : Value} {xs : List Int} (h : Ints w v xs) : On (fun k => k < w.heap.size) w (fun w' => Ints w' v xs) := by
  intro w' hs hk
  obtain ⟨a, len, cap, e, hl, hm, hsh, hr⟩ := h
  exact ⟨a, len, cap, e, hl, hm, hsh, hr.blocks hs fun k hlt => hk k hlt hlt⟩

theorem info_ints : (Try.prog.info? 35).map (fun i => (i.zero, i.size, i.bytes)) = some (some (.slice none 0 0), 1, 24) := by kernel_rfl
theorem info_arc : (Try.prog.info? 109).map (fun i => (i.zero, i.size, i.bytes)) = some (some (.agg #[.int .i64 0, .int .i64 0, .int .i64 0]), 3, 24) := by kernel_rfl

/-- The cells of arcs. -/
def arcCells (l : List ArcL) : List Value := l.flatMap fun a => [.int .i64 (a.frm : Int), .int .i64 (a.tran : Int), .int .i64 (a.dst : Int)]
theorem arcCells_length (l : List ArcL) : (arcCells l).length = l.length * 3 := by
  unfold arcCells
  induction l with
  | nil => rfl
  | cons x r ih => simp only [List.flatMap_cons, List.length_append, ih, List.length_cons, List.length_nil]; omega
theorem arcCells_append (l : List ArcL) (a : ArcL) : arcCells (l ++ [a]) = arcCells l ++ [.int .i64 (a.frm : Int), .int .i64 (a.tran : Int), .int .i64 (a.dst : Int)] := by simp [arcCells]
theorem arcCells_at (l : List ArcL) (j : Nat) (h : j < l.length) :
    (arcCells l)[j * 3]? = some (.int .i64 (l[j].frm : Int)) ∧ (arcCells l)[j * 3 + 1]? = some (.int .i64 (l[j].tran : Int)) ∧ (arcCells l)[j * 3 + 2]? = some (.int .i64 (l[j].dst : Int)) := by
  induction l generalizing j with
  | nil => simp at h
  | cons x r ih =>
    have ec : arcCells (x :: r) = .int .i64 (x.frm : Int) :: .int .i64 (x.tran : Int) :: .int .i64 (x.dst : Int) :: arcCells r := rfl
    match j, h with
    | 0, _ => exact ⟨rfl, rfl, rfl⟩
    | j + 1, h =>
      obtain ⟨q1, q2, q3⟩ := ih j (by simpa using h)
      rw [ec, show (j + 1) * 3 = j * 3 + 3 by omega]
      exact ⟨q1, q2, q3⟩

/-- The space s lies at block x; its two rows are the call's own; the marks hang on none of these, nor on block y. -/
structure SpaceAt (x y B : Nat) (W wr : World) (s : SpaceL) (mv av : Value) (us : List Value) : Prop where
  rowM : wr.ownsRow B 35 1 mv us.length us
  rowA : wr.ownsRow B 109 3 av s.arcs.length (arcCells s.arcs)
  below : Below B W wr
  hx : B ≤ x
  hlt : x < wr.heap.size
  hy : y < B
  c0 : wr.cell? ⟨x, 0, none⟩ = some mv
  c1 : wr.cell? ⟨x, 1, none⟩ = some av
  f0 : wr.frozen? ⟨x, 0, none⟩ = false
  f1 : wr.frozen? ⟨x, 1, none⟩ = false
  apM : mv.ownBlock ≠ some x
  apA : av.ownBlock ≠ some x
  apMA : ∀ k, mv.ownBlock = some k → av.ownBlock ≠ some k
  len : us.length = s.marks.length
  els : ∀ j (hj : j < us.length), us[j].oneCell' = true ∧ On (fun k => k ≠ x ∧ k ≠ y ∧ mv.ownBlock ≠ some k ∧ av.ownBlock ≠ some k) wr (fun w' => Ints w' us[j] (markAt s.marks j))

theorem SpaceAt.to {x y B : Nat} {W wr w' : World} {s : SpaceL} {mv av : Value} {us : List Value} (h : SpaceAt x y B W wr s mv av us) (hb : Below wr.heap.size wr w') : SpaceAt x y B W w' s mv av us :=
  { h with
    rowM := ((ownsRow_on h.rowM).below hb).now
    rowA := ((ownsRow_on h.rowA).below hb).now
    below := h.below.trans (hb.mono (Nat.le_trans h.hx (Nat.le_of_lt h.hlt)))
    hlt := Nat.lt_of_lt_of_le h.hlt hb.size
    c0 := by rw [hb.cell (p := ⟨x, 0, none⟩) h.hlt]; exact h.c0
    c1 := by rw [hb.cell (p := ⟨x, 1, none⟩) h.hlt]; exact h.c1
    f0 := by rw [hb.frozen (p := ⟨x, 0, none⟩) h.hlt]; exact h.f0
    f1 := by rw [hb.frozen (p := ⟨x, 1, none⟩) h.hlt]; exact h.f1
    els := fun j hj => ⟨(h.els j hj).1, (h.els j hj).2.below hb⟩ }

/-- What a row grows by, and a store at block x, leave. -/
theorem grown_set {x : Nat} {w wC : World} {row : Option Nat} (hg : w.grownBy wC row) (a : Addr) (ha : a.block = x) (u : Value) {k : Nat} (hlt : k < w.heap.size) (hk : k ≠ x) (hr : row ≠ some k) :
    (wC.setCell a u).heap[k]? = w.heap[k]? := by
  rw [Below.heap_setCell wC a u k (by rw [ha]; exact hk)]
  exact hg.block k hlt (fun e => hr e.symm)

/-- One more mark. -/
theorem SpaceAt.mark {x y B : Nat} {W wr wC : World} {s : SpaceL} {mv av mv' r : Value} {us : List Value} {z : List Int} (h : SpaceAt x y B W wr s mv av us) (h1 : r.oneCell' = true)
    (hr : On (fun k => k ≠ x ∧ k ≠ y ∧ mv.ownBlock ≠ some k ∧ av.ownBlock ≠ some k) wr (fun w' => Ints w' r z))
    (hown : wC.ownsRow B 35 1 mv' (us.length + 1) (us ++ [r])) (hg : wr.grownBy wC mv.ownBlock) (hat : mv'.ownBlock = mv.ownBlock ∨ mv'.ownBlock = some wr.heap.size) :
    SpaceAt x y B W (wC.setCell ⟨x, 0, none⟩ mv') ⟨s.marks ++ [z], s.arcs⟩ mv' av (us ++ [r]) := by
  have hsz : wr.heap.size ≤ (wC.setCell ⟨x, 0, none⟩ mv').heap.size := Nat.le_trans hg.size (by simp [World.setCell])
  have hM : ∀ k, mv.ownBlock = some k → B ≤ k ∧ k < wr.heap.size := fun k hk => ownsRow_lt h.rowM hk
  have hA : ∀ k, av.ownBlock = some k → B ≤ k ∧ k < wr.heap.size := fun k hk => ownsRow_lt h.rowA hk
  have hcx : wC.heap[x]? = wr.heap[x]? := hg.block x h.hlt (fun e => h.apM e.symm)
  have apM' : mv'.ownBlock ≠ some x := by
    rcases hat with e | e <;> rw [e]
    · exact h.apM
    · have := h.hlt; simp; omega
  have keep : ∀ {R : World → Prop}, On (fun k => k ≠ x ∧ k ≠ y ∧ mv.ownBlock ≠ some k ∧ av.ownBlock ≠ some k) wr R → On (fun k => k ≠ x ∧ k ≠ y ∧ mv'.ownBlock ≠ some k ∧ av.ownBlock ≠ some k) (wC.setCell ⟨x, 0, none⟩ mv') R := by
    intro R hR w2 hs2 hk2
    refine hR w2 (Nat.le_trans hsz hs2) fun k hlt ⟨q1, q2, q3, q4⟩ => ?_
    have q5 : mv'.ownBlock ≠ some k := by
      rcases hat with e | e <;> rw [e]
      · exact q3
      · simp; omega
    rw [hk2 k (Nat.lt_of_lt_of_le hlt hsz) ⟨q1, q2, q5, q4⟩]
    exact grown_set hg ⟨x, 0, none⟩ rfl mv' hlt q1 q3
  refine ⟨?_, ?_, ?_, h.hx, Nat.lt_of_lt_of_le h.hlt hsz, h.hy, ?_, ?_, ?_, ?_, apM', h.apA, ?_, by simp [h.len], fun j hj => ?_⟩
  · have := (ownsRow_on hown).set (a := ⟨x, 0, none⟩) (fun e => apM' e.1) mv'
    simpa using this.now
  · have q := (ownsRow_on h.rowA).to (w' := wC.setCell ⟨x, 0, none⟩ mv') hsz (fun k hlt hk => grown_set hg ⟨x, 0, none⟩ rfl mv' hlt (fun (e : k = x) => h.apA (by rw [← e]; exact hk.1)) (fun e => h.apMA k e hk.1))
    exact q.now
  · exact (h.below.grown hg (Nat.le_trans h.hx (Nat.le_of_lt h.hlt)) (fun k hk => (hM k hk).1)).setCell (p := ⟨x, 0, none⟩) h.hx _
  · exact World.cell?_setCell_same _ _ _ ((World.cell?_of_block (a := ⟨x, 0, none⟩) hcx).trans h.c0)
  · rw [World.cell?_setCell_other _ _ _ _ (by intro q; injection q with _ q2; omega)]; exact (World.cell?_of_block (a := ⟨x, 1, none⟩) hcx).trans h.c1
  · rw [World.frozen?_setCell]; exact (World.frozen?_of_block (a := ⟨x, 0, none⟩) hcx).trans h.f0
  · rw [World.frozen?_setCell]; exact (World.frozen?_of_block (a := ⟨x, 1, none⟩) hcx).trans h.f1
  · intro k hk e
    rcases hat with q | q
    · rw [q] at hk; exact h.apMA k hk e
    · rw [q] at hk; injection hk with hk; have := (hA k e).2; omega
  · by_cases hjl : j < us.length
    · rw [List.getElem_append_left hjl]
      have e : markAt (s.marks ++ [z]) j = markAt s.marks j := markAt_append (by rw [← h.len]; exact hjl)
      exact ⟨(h.els j hjl).1, by show On _ _ (fun w' => Ints w' us[j] (markAt (s.marks ++ [z]) j)); rw [e]; exact keep (h.els j hjl).2⟩
    · have e : j = us.length := by simp at hj; omega
      subst e
      rw [List.getElem_append_right (Nat.le_refl _)]
      simp only [Nat.sub_self, List.getElem_cons_zero]
      refine ⟨h1, ?_⟩
      show On _ _ (fun w' => Ints w' r (markAt (s.marks ++ [z]) us.length))
      rw [h.len, markAt_last]
      exact keep hr

/-- One more arc. -/
theorem SpaceAt.arc {x y B : Nat} {W wr wC : World} {s : SpaceL} {mv av av' : Value} {us : List Value} {a : ArcL} (h : SpaceAt x y B W wr s mv av us)
    (hown : wC.ownsRow B 109 3 av' (s.arcs.length + 1) (arcCells s.arcs ++ [.int .i64 (a.frm : Int), .int .i64 (a.tran : Int), .int .i64 (a.dst : Int)])) (hg : wr.grownBy wC av.ownBlock) (hat : av'.ownBlock = av.ownBlock ∨ av'.ownBlock = some wr.heap.size) :
    SpaceAt x y B W (wC.setCell ⟨x, 1, none⟩ av') ⟨s.marks, s.arcs ++ [a]⟩ mv av' us := by
  have hsz : wr.heap.size ≤ (wC.setCell ⟨x, 1, none⟩ av').heap.size := Nat.le_trans hg.size (by simp [World.setCell])
  have hM : ∀ k, mv.ownBlock = some k → B ≤ k ∧ k < wr.heap.size := fun k hk => ownsRow_lt h.rowM hk
  have hA : ∀ k, av.ownBlock = some k → B ≤ k ∧ k < wr.heap.size := fun k hk => ownsRow_lt h.rowA hk
  have hcx : wC.heap[x]? = wr.heap[x]? := hg.block x h.hlt (fun e => h.apA e.symm)
  have apA' : av'.ownBlock ≠ some x := by
    rcases hat with e | e <;> rw [e]
    · exact h.apA
    · have := h.hlt; simp; omega
  refine ⟨?_, ?_, ?_, h.hx, Nat.lt_of_lt_of_le h.hlt hsz, h.hy, ?_, ?_, ?_, ?_, h.apM, apA', ?_, h.len, fun j hj => ⟨(h.els j hj).1, ?_⟩⟩
  · have q := (ownsRow_on h.rowM).to (w' := wC.setCell ⟨x, 1, none⟩ av') hsz (fun k hlt hk => grown_set hg ⟨x, 1, none⟩ rfl av' hlt (fun (e : k = x) => h.apM (by rw [← e]; exact hk.1)) (h.apMA k hk.1))
    exact q.now
  · have := (ownsRow_on hown).set (a := ⟨x, 1, none⟩) (fun e => apA' e.1) av'
    show World.ownsRow _ B 109 3 av' (s.arcs ++ [a]).length (arcCells (s.arcs ++ [a]))
    rw [arcCells_append]
    simpa using this.now
  · exact (h.below.grown hg (Nat.le_trans h.hx (Nat.le_of_lt h.hlt)) (fun k hk => (hA k hk).1)).setCell (p := ⟨x, 1, none⟩) h.hx _
  · rw [World.cell?_setCell_other _ _ _ _ (by intro q; injection q with _ q2; omega)]; exact (World.cell?_of_block (a := ⟨x, 0, none⟩) hcx).trans h.c0
  · exact World.cell?_setCell_same _ _ _ ((World.cell?_of_block (a := ⟨x, 1, none⟩) hcx).trans h.c1)
  · rw [World.frozen?_setCell]; exact (World.frozen?_of_block (a := ⟨x, 0, none⟩) hcx).trans h.f0
  · rw [World.frozen?_setCell]; exact (World.frozen?_of_block (a := ⟨x, 1, none⟩) hcx).trans h.f1
  · intro k hk e
    rcases hat with q | q
    · rw [q] at e; exact h.apMA k hk e
    · rw [q] at e; injection e with e; have := (hM k hk).2; omega
  · intro w2 hs2 hk2
    refine (h.els j hj).2 w2 (Nat.le_trans hsz hs2) fun k hlt ⟨q1, q2, q3, q4⟩ => ?_
    have q5 : av'.ownBlock ≠ some k := by
      rcases hat with e | e <;> rw [e]
      · exact q4
      · simp; omega
    rw [hk2 k (Nat.lt_of_lt_of_le hlt hsz) ⟨q1, q2, q3, q5⟩]
    exact grown_set hg ⟨x, 1, none⟩ rfl av' hlt q1 q4

/-- Its marks, read. -/
theorem SpaceAt.lists {x y B : Nat} {W wr : World} {s : SpaceL} {mv av : Value} {us : List Value} (h : SpaceAt x y B W wr s mv av us) (hl : us.length ≤ 5864062014805) : Lists wr mv s.marks := by
  have hown := h.rowM
  obtain ⟨_, hcase⟩ := hown
  rcases hcase with ⟨e, h0⟩ | ⟨g, cap', cur, e, hg, hh, hn, hcap, hsz, htake⟩
  · exact ⟨none, us.length, 0, by rw [e, h0], h.len.symm, by omega, ⟨by omega, by omega, fun _ => rfl⟩, fun j hj => absurd hj (by have := h.len; omega)⟩
  · refine ⟨_, us.length, _, e, h.len.symm, by omega, ⟨hn, by unfold maxLen at hcap; omega, fun h => by cases h⟩, fun j hj => ?_⟩
    have hj' : j < us.length := by have := h.len; omega
    refine ⟨g, 0, us[j], rfl, ?_, ?_, (h.els j hj').2.now⟩
    · rcases Nat.lt_or_ge g wr.heap.size with q | q
      · exact q
      · rw [Array.getElem?_eq_none q] at hh; cases hh
    · have hown2 := h.rowM
      rw [e] at hown2
      rw [Nat.zero_add, hown2.cellAt j (by omega), List.getElem?_eq_getElem hj']
theorem SpaceAt.arcsR {x y B : Nat} {W wr : World} {s : SpaceL} {mv av : Value} {us : List Value} (h : SpaceAt x y B W wr s mv av us) (hl : s.arcs.length ≤ 5864062014805) : Arcs wr av (s.arcs.map arcZ) := by
  have hown := h.rowA
  obtain ⟨_, hcase⟩ := hown
  rcases hcase with ⟨e, h0⟩ | ⟨g, cap', cur, e, hg, hh, hn, hcap, hsz, htake⟩
  · exact ⟨none, s.arcs.length, 0, by rw [e, h0], by simp, by omega, ⟨by omega, by omega, fun _ => rfl⟩, fun j hj => absurd hj (by simp; omega)⟩
  · refine ⟨_, s.arcs.length, _, e, by simp, by omega, ⟨hn, by unfold maxLen at hcap; omega, fun h => by cases h⟩, fun j hj => ?_⟩
    have hj' : j < s.arcs.length := by simpa using hj
    have hown2 := h.rowA
    rw [e] at hown2
    obtain ⟨q1, q2, q3⟩ := arcCells_at s.arcs j hj'
    refine ⟨g, 0, rfl, ?_, ?_, ?_, ?_⟩
    · rcases Nat.lt_or_ge g wr.heap.size with q | q
      · exact q
      · rw [Array.getElem?_eq_none q] at hh; cases hh
    · rw [Nat.zero_add, hown2.cellAt (j * 3) (by omega), q1, List.getElem_map]; rfl
    · rw [Nat.zero_add, hown2.cellAt (j * 3 + 1) (by omega), q2, List.getElem_map]; rfl
    · rw [Nat.zero_add, hown2.cellAt (j * 3 + 2) (by omega), q3, List.getElem_map]; rfl

end Go.Proofs.Ytfgimobmaahmmaa

/- The answers of the document itself for nets, with what they hang on: one fires. -/
namespace Go.Proofs.Ytfgimobmaahmmaa
open Go.RowKit
set_option linter.unusedVariables false
set_option maxRecDepth 4000

/-- What a call answers that makes a mark anew, or tells what is wrong: the mark hangs on new blocks alone. -/
def GivesO (w : World) (p : List Int × Int) (e : Ending) (w' : World) : Prop :=
  ∃ r, e = .returned (.tuple #[r, .int .i64 p.2]) ∧ On (fun k => w.heap.size ≤ k) w' (fun w'' => Ints w'' r p.1) ∧ Below w.heap.size w w'

theorem givesO_of {w w' : World} {r : Value} {p : List Int × Int} {zs : List Int} {c : Int} (hp : p = (zs, c)) (hr : On (fun k => w.heap.size ≤ k) w' (fun w'' => Ints w'' r zs)) (hb : Below w.heap.size w w') : GivesO w p (.returned (.tuple #[r, .int .i64 c])) w' := by
  subst hp; exact ⟨r, rfl, hr, hb⟩
theorem on_nil (D : Nat → Prop) (w : World) : On D w (fun w' => Ints w' (.slice none 0 0) []) := fun w' _ _ => Ints.nil w'

end Go.Proofs.Ytfgimobmaahmmaa

/- The answers of the document itself for reach: all marks. -/
namespace Go.Proofs.Ytfgimobmaahmmaa
open Go.RowKit
set_option linter.unusedVariables false
set_option maxRecDepth 4000

theorem SpaceAt.sliceM {x y B : Nat} {W wr : World} {s : SpaceL} {mv av : Value} {us : List Value} (h : SpaceAt x y B W wr s mv av us) : ∃ a cap, mv = .slice a s.marks.length cap := by
  rcases h.rowM.2 with ⟨e, h0⟩ | ⟨g, cap', cur, e, _⟩
  · exact ⟨none, 0, by rw [e, ← h.len, h0]⟩
  · exact ⟨_, _, by rw [e, h.len]⟩
theorem SpaceAt.sliceA {x y B : Nat} {W wr : World} {s : SpaceL} {mv av : Value} {us : List Value} (h : SpaceAt x y B W wr s mv av us) : ∃ a cap, av = .slice a s.arcs.length cap := by
  rcases h.rowA.2 with ⟨e, h0⟩ | ⟨g, cap', cur, e, _⟩
  · exact ⟨none, 0, by rw [e, h0]⟩
  · exact ⟨_, _, e⟩

theorem space_start (W : World) (u : Value) (m : List Int) (y : Nat) (hy : y < W.heap.size) (h1 : u.oneCell' = true) (hu : On (fun k => k ≠ y ∧ k < W.heap.size) W (fun w' => Ints w' u m)) :
    SpaceAt (W.heap.size + 1) y W.heap.size W ((W.alloc (.cells #[u] 35)).alloc (.cells #[.slice (some ⟨W.heap.size, 0, none⟩) 1 1, .slice none 0 0] 71)) ⟨[m], []⟩ (.slice (some ⟨W.heap.size, 0, none⟩) 1 1) (.slice none 0 0) [u] := by
  have b1 := below_new W (.cells #[u] 35)
  have b2 := below_new (W.alloc (.cells #[u] 35)) (.cells #[.slice (some ⟨W.heap.size, 0, none⟩) 1 1, .slice none 0 0] 71)
  have e1 : (W.alloc (.cells #[u] 35)).heap.size = W.heap.size + 1 := by simp
  have hx := box2_new (W.alloc (.cells #[u] 35)) (.slice (some ⟨W.heap.size, 0, none⟩) 1 1) (.slice none 0 0) 71
  rw [e1] at hx
  refine ⟨⟨by simp, .inr ⟨W.heap.size, 1, #[u], rfl, Nat.le_refl _, ?_, by simp, by unfold maxLen; omega, by simp, by simp⟩⟩, World.ownsRow_nil _ _ _ _, below_then b1 b2, by omega, by simp, hy, hx.2.1, hx.2.2, ?_, ?_, ?_, ?_, ?_, by simp, ?_⟩
  · rw [b2.block W.heap.size (by simp)]
    exact heap_alloc_new W _
  · rw [World.frozen?_alloc_at _ _ _ _ (by simp)]
  · rw [World.frozen?_alloc_at _ _ _ _ (by simp)]
  · simp [Value.ownBlock]
  · simp [Value.ownBlock]
  · intro k _; simp [Value.ownBlock]
  · intro j hj
    have e : j = 0 := by simpa using hj
    subst e
    refine ⟨h1, ?_⟩
    have q := (hu.below b1).below b2
    refine q.weaken fun k hlt hk => ⟨by omega, hk.1, ?_, by simp [Value.ownBlock]⟩
    simp [Value.ownBlock]; omega

/-- What is handed back: the space, in the block of the answer. -/
theorem SpaceAt.out {x y B : Nat} {W wr : World} {s : SpaceL} {mv av : Value} {us : List Value} (h : SpaceAt x y B W wr s mv av us) (hl : us.length ≤ 5864062014805) (hl2 : s.arcs.length ≤ 5864062014805) :
    Lists ((wr.setCell ⟨y, 0, none⟩ mv).setCell ⟨y, 1, none⟩ av) mv s.marks ∧ Arcs ((wr.setCell ⟨y, 0, none⟩ mv).setCell ⟨y, 1, none⟩ av) av (s.arcs.map arcZ) := by
  have hy := h.hy
  have hxy : x ≠ y := by have := h.hx; omega
  have hM : ∀ k, mv.ownBlock = some k → B ≤ k := fun k hk => (ownsRow_lt h.rowM hk).1
  have hA : ∀ k, av.ownBlock = some k → B ≤ k := fun k hk => (ownsRow_lt h.rowA hk).1
  have key : ∀ (o : Nat) (u : Value) (w1 : World), SpaceAt x y B w1 w1 s mv av us → SpaceAt x y B (w1.setCell ⟨y, o, none⟩ u) (w1.setCell ⟨y, o, none⟩ u) s mv av us := by
    intro o u w1 g
    have hc : (w1.setCell ⟨y, o, none⟩ u).heap[x]? = w1.heap[x]? := Below.heap_setCell w1 ⟨y, o, none⟩ u x hxy
    exact { g with
      rowM := ((ownsRow_on g.rowM).set (a := ⟨y, o, none⟩) (fun e => by have := hM y e.1; omega) u).now
      rowA := ((ownsRow_on g.rowA).set (a := ⟨y, o, none⟩) (fun e => by have := hA y e.1; omega) u).now
      below := Below.refl _ _
      hlt := by have := g.hlt; simp [World.setCell]; omega
      c0 := (World.cell?_of_block (a := ⟨x, 0, none⟩) hc).trans g.c0
      c1 := (World.cell?_of_block (a := ⟨x, 1, none⟩) hc).trans g.c1
      f0 := (World.frozen?_of_block (a := ⟨x, 0, none⟩) hc).trans g.f0
      f1 := (World.frozen?_of_block (a := ⟨x, 1, none⟩) hc).trans g.f1
      els := fun j hj => ⟨(g.els j hj).1, (g.els j hj).2.set (a := ⟨y, o, none⟩) (fun e => e.2.1 rfl) u⟩ }
  have g0 : SpaceAt x y B wr wr s mv av us := { h with below := Below.refl _ _ }
  have g2 := key 1 av _ (key 0 mv _ g0)
  exact ⟨g2.lists hl, g2.arcsR hl2⟩

theorem wp_append_mark {ops : Array Oper} {rest : List Oper} {o : Oper} {a : Act} {Q : Exit → Act → World → Prop} (hgd : o.guard = none) (s x : Operand)
    (ho : o.op = .call { callee := .builtin .append, args := #[s, x], argTypes := #[68, 68] }) (B : Nat) (wr : World) (v : Value) (us : List Value) (ax : Option Addr) (lx cx : Nat)
    (hown : wr.ownsRow B 35 1 v us.length us) (hs : a.eval s = v) (hx : a.eval x = .slice (some ⟨wr.heap.size, 0, none⟩) 1 1) (hl : us.length + 1 ≤ 5864062014805) (hB : B ≤ wr.heap.size)
    (h : ∀ v' w', w'.ownsRow B 35 1 v' (us.length + 1) (us ++ [.slice ax lx cx]) → (wr.alloc (.cells #[.slice ax lx cx] 35)).grownBy w' v.ownBlock →
      (v'.ownBlock = v.ownBlock ∨ v'.ownBlock = some (wr.alloc (.cells #[.slice ax lx cx] 35)).heap.size) → wpList Try.prog ops Q rest (a.put o.dst v') w') :
    wpList Try.prog ops Q (o :: rest) a (wr.alloc (.cells #[.slice ax lx cx] 35)) := by
  obtain ⟨i0, hi, hz0, hz1, hz2⟩ := info_parts info_ints
  refine wpList_append_own_at _ hgd s x 68 ho B 35 i0 _ 1 24 Try.underlying68 hi hz0 hz1 hz2 rfl (by decide) v us.length _ hs (hown.alloc _) ⟨wr.heap.size, 0, none⟩ 1 1 [.slice ax lx cx] hx rfl (cell_one_new _ _ _) ?_ ?_ ?_ ?_ ?_
  · intro u hu; simp at hu; subst hu; rfl
  · unfold maxLen; omega
  · omega
  · simp; omega
  · intro v' w' h1 h2 _ h3
    exact h v' w' h1 h2 h3

theorem wp_append_arc {ops : Array Oper} {rest : List Oper} {o : Oper} {a : Act} {Q : Exit → Act → World → Prop} (hgd : o.guard = none) (s x : Operand)
    (ho : o.op = .call { callee := .builtin .append, args := #[s, x], argTypes := #[69, 69] }) (B : Nat) (wr : World) (v : Value) (l : List ArcL) (f t g : Int)
    (hown : wr.ownsRow B 109 3 v l.length (arcCells l)) (hs : a.eval s = v) (hx : a.eval x = .slice (some ⟨wr.heap.size, 0, none⟩) 1 1) (hl : l.length + 1 ≤ 5864062014805) (hB : B ≤ wr.heap.size)
    (h : ∀ v' w', w'.ownsRow B 109 3 v' (l.length + 1) (arcCells l ++ [.int .i64 f, .int .i64 t, .int .i64 g]) → (wr.alloc (.cells #[.int .i64 f, .int .i64 t, .int .i64 g] 109)).grownBy w' v.ownBlock →
      (v'.ownBlock = v.ownBlock ∨ v'.ownBlock = some (wr.alloc (.cells #[.int .i64 f, .int .i64 t, .int .i64 g] 109)).heap.size) → wpList Try.prog ops Q rest (a.put o.dst v') w') :
    wpList Try.prog ops Q (o :: rest) a (wr.alloc (.cells #[.int .i64 f, .int .i64 t, .int .i64 g] 109)) := by
  obtain ⟨i0, hi, hz0, hz1, hz2⟩ := info_parts info_arc
  refine wpList_append_own_at _ hgd s x 69 ho B 109 i0 _ 3 24 Try.underlying69 hi hz0 hz1 hz2 rfl (by decide) v l.length _ hs (hown.alloc _) ⟨wr.heap.size, 0, none⟩ 1 1 [.int .i64 f, .int .i64 t, .int .i64 g] hx rfl ?_ ?_ ?_ ?_ ?_ ?_
  · intro j u hj
    rw [addr_add, World.cell?_alloc_at _ _ _ _ rfl]
    match j, hj with
    | 0, hj => simpa using hj
    | 1, hj => simpa using hj
    | 2, hj => simpa using hj
  · intro u hu
    simp only [List.mem_cons, List.not_mem_nil, or_false] at hu
    rcases hu with rfl | rfl | rfl <;> rfl
  · unfold maxLen; omega
  · omega
  · simp; omega
  · intro v' w' h1 h2 _ h3
    exact h v' w' h1 h2 h3

theorem row_none {n : NetL} {most k : Nat} {s : SpaceL} {t : Nat} (h : rowTo n most k s t = none) : ∀ j, rowTo n most k s (t + j) = none := by
  intro j
  induction j with
  | zero => exact h
  | succ j ih => rw [← Nat.add_assoc, rowTo, ih]; rfl
theorem graph_none {n : NetL} {m : List Int} {most k : Nat} (h : graphTo n m most k = none) : ∀ j, graphTo n m most (k + j) = none := by
  intro j
  induction j with
  | zero => exact h
  | succ j ih => rw [← Nat.add_assoc, graphTo, ih]; rfl

/-- What the search among the first j marks has come to. -/
def SeekTo (ms : List (List Int)) (x : List Int) (j : Nat) (z : Int) : Prop := (z = -1 ∧ ∀ i, i < j → markAt ms i ≠ x) ∨ ∃ i, i < j ∧ z = i ∧ markAt ms i = x
theorem seek_done {ms : List (List Int)} {x : List Int} {z : Int} (hn : ms.Nodup) (h : SeekTo ms x ms.length z) : (z = -1 ∧ findM ms x = none) ∨ ∃ i : Nat, i < ms.length ∧ z = i ∧ findM ms x = some i := by
  rcases h with ⟨e, h⟩ | ⟨i, hi, e, h⟩
  · left
    refine ⟨e, ?_⟩
    cases hf : findM ms x with
    | none => rfl
    | some g => obtain ⟨h1, h2⟩ := findM_some hf; exact absurd h2 (h g h1)
  · right
    exact ⟨i, hi, e, by rw [← h]; exact findM_at hn hi⟩
theorem seek_yes {ms : List (List Int)} {x : List Int} {j : Nat} (h : markAt ms j = x) : SeekTo ms x (j + 1) j := .inr ⟨j, by omega, rfl, h⟩
theorem seek_no {ms : List (List Int)} {x : List Int} {j : Nat} {z : Int} (h : SeekTo ms x j z) (hn : markAt ms j ≠ x) : SeekTo ms x (j + 1) z := by
  rcases h with ⟨e, h⟩ | ⟨i, hi, e, h⟩
  · exact .inl ⟨e, fun i hi => by
      by_cases q : i = j
      · subst q; exact hn
      · exact h i (by omega)⟩
  · exact .inr ⟨i, by omega, e, h⟩

/-- What was made behind it hangs on none of its blocks. -/
theorem SpaceAt.fresh {x y B : Nat} {W wr w' : World} {s : SpaceL} {mv av : Value} {us : List Value} (h : SpaceAt x y B W wr s mv av us) {R : World → Prop} (hR : On (fun k => wr.heap.size ≤ k) w' R) :
    On (fun k => k ≠ x ∧ k ≠ y ∧ mv.ownBlock ≠ some k ∧ av.ownBlock ≠ some k) w' R := by
  have h1 := h.hlt
  have h2 := h.hx
  have h3 := h.hy
  refine hR.weaken fun k _ hk => ⟨by omega, by omega, fun e => ?_, fun e => ?_⟩
  · have := ownsRow_lt h.rowM e; omega
  · have := ownsRow_lt h.rowA e; omega

theorem tryT_arcs {n : NetL} {most k t : Nat} {s s' : SpaceL} (e : tryT n most k s t = some s') : s'.arcs.length ≤ s.arcs.length + 1 := by
  unfold tryT at e
  split at e
  · injection e with e; subst e; omega
  · split at e
    · split at e
      · injection e with e; subst e; simp
      · split at e
        · cases e
        · injection e with e; subst e; simp
    · cases e
theorem rowTo_arcs {n : NetL} {most k : Nat} {s : SpaceL} : ∀ (t : Nat) {s' : SpaceL}, rowTo n most k s t = some s' → s'.arcs.length ≤ s.arcs.length + t := by
  intro t
  induction t with
  | zero => intro s' e; injection e with e; subst e; omega
  | succ t ih =>
    intro s' e
    simp only [rowTo, Option.bind_eq_some_iff] at e
    obtain ⟨s1, e1, e2⟩ := e
    have := ih e1
    have := tryT_arcs e2
    omega
theorem graphTo_arcs {n : NetL} {m : List Int} {most : Nat} (hT : n.trans.length ≤ 24) : ∀ (k : Nat) {s : SpaceL}, graphTo n m most k = some s → s.arcs.length ≤ k * 24 := by
  intro k
  induction k with
  | zero => intro s e; injection e with e; subst e; simp
  | succ k ih =>
    intro s e
    simp only [graphTo, Option.bind_eq_some_iff] at e
    obtain ⟨s1, e1, e2⟩ := e
    have h1 := ih e1
    by_cases hk : k < s1.marks.length
    · rw [if_pos hk] at e2
      have := rowTo_arcs _ e2
      omega
    · rw [if_neg hk] at e2
      injection e2 with e2
      subst e2
      omega
theorem fits_trans {n : NetL} {m : List Int} (h : fitsL n m = true) : n.trans.length ≤ 24 := by
  have h1 := (fits_net h).1
  simp only [netOk, headOk, Bool.and_eq_true, decide_eq_true_eq] at h1
  exact h1.1.2

/-- One that fails fails all. -/
theorem graph_fails {n : NetL} {m : List Int} {M k t : Nat} {s s' : SpaceL} (hg : graphTo n m M k = some s) (hk : k < s.marks.length) (hkM : k < M) (hr : rowTo n M k s t = some s') (ht : t < n.trans.length) (hn : tryT n M k s' t = none) : graphTo n m M M = none := by
  have h1 : rowTo n M k s (t + 1) = none := by rw [rowTo, hr]; exact hn
  have h2 := row_none h1 (n.trans.length - (t + 1))
  rw [show t + 1 + (n.trans.length - (t + 1)) = n.trans.length by omega] at h2
  have h3 : graphTo n m M (k + 1) = none := by rw [graphTo, hg]; simp only [Option.bind_some, if_pos hk]; exact h2
  have h4 := graph_none h3 (M - (k + 1))
  rw [show k + 1 + (M - (k + 1)) = M by omega] at h4
  exact h4
theorem tryT_skip {n : NetL} {M k t : Nat} {s : SpaceL} {z : List Int} (h : fireL n (markAt s.marks k) t = (z, 3)) : tryT n M k s t = some s := by
  unfold tryT; rw [h]; rfl
theorem tryT_full {n : NetL} {M k t : Nat} {s : SpaceL} {z : List Int} {cd : Int} (h : fireL n (markAt s.marks k) t = (z, cd)) (h3 : cd ≠ 3) (h0 : cd ≠ 0) : tryT n M k s t = none := by
  unfold tryT; rw [h]; simp [h3, h0]
theorem tryT_old {n : NetL} {M k t g : Nat} {s : SpaceL} {z : List Int} (h : fireL n (markAt s.marks k) t = (z, 0)) (hf : findM s.marks z = some g) : tryT n M k s t = some ⟨s.marks, s.arcs ++ [⟨k, t, g⟩]⟩ := by
  unfold tryT; rw [h]; simp [hf]
theorem tryT_most {n : NetL} {M k t : Nat} {s : SpaceL} {z : List Int} (h : fireL n (markAt s.marks k) t = (z, 0)) (hf : findM s.marks z = none) (hl : s.marks.length = M) : tryT n M k s t = none := by
  unfold tryT; rw [h]; simp [hf, hl]
theorem tryT_new {n : NetL} {M k t : Nat} {s : SpaceL} {z : List Int} (h : fireL n (markAt s.marks k) t = (z, 0)) (hf : findM s.marks z = none) (hl : s.marks.length ≠ M) : tryT n M k s t = some ⟨s.marks ++ [z], s.arcs ++ [⟨k, t, s.marks.length⟩]⟩ := by
  unfold tryT; rw [h]; simp [hf, hl]
theorem row_step {n : NetL} {M k t : Nat} {s s' s2 : SpaceL} (hr : rowTo n M k s t = some s') (h : tryT n M k s' t = some s2) : rowTo n M k s (t + 1) = some s2 := by
  rw [rowTo, hr]; exact h

theorem SpaceAt.afterM {x y B : Nat} {W wr W' wC : World} {s : SpaceL} {mv av : Value} {us : List Value} (h : SpaceAt x y B W wr s mv av us) (hb : Below wr.heap.size wr W') (hg : W'.grownBy wC mv.ownBlock) :
    wC.cell? ⟨x, 0, none⟩ = some mv ∧ wC.frozen? ⟨x, 0, none⟩ = false := by
  have g := h.to hb
  have hc : wC.heap[x]? = W'.heap[x]? := hg.block x g.hlt (fun e => g.apM e.symm)
  exact ⟨(World.cell?_of_block (a := ⟨x, 0, none⟩) hc).trans g.c0, (World.frozen?_of_block (a := ⟨x, 0, none⟩) hc).trans g.f0⟩
theorem SpaceAt.afterA {x y B : Nat} {W wr W' wC : World} {s : SpaceL} {mv av : Value} {us : List Value} (h : SpaceAt x y B W wr s mv av us) (hb : Below wr.heap.size wr W') (hg : W'.grownBy wC av.ownBlock) :
    wC.cell? ⟨x, 1, none⟩ = some av ∧ wC.frozen? ⟨x, 1, none⟩ = false := by
  have g := h.to hb
  have hc : wC.heap[x]? = W'.heap[x]? := hg.block x g.hlt (fun e => g.apA e.symm)
  exact ⟨(World.cell?_of_block (a := ⟨x, 1, none⟩) hc).trans g.c1, (World.frozen?_of_block (a := ⟨x, 1, none⟩) hc).trans g.f1⟩

end Go.Proofs.Ytfgimobmaahmmaa

/- A row of ints that the call itself made, written at any index. -/
namespace Go.Proofs.Ytfgimobmaahmmaa
open Go.RowKit
set_option linter.unusedVariables false
set_option maxRecDepth 4000

/-- A row of n ints that the call itself made, at block B, that holds f; nothing older has turned. -/
structure RowAt (B : Nat) (w wr : World) (n : Nat) (f : Nat → Int) : Prop where
  cells : ∀ j, j < n → wr.cell? ⟨B, j, none⟩ = some (.int .i64 (f j))
  frozen : ∀ j, j < n → wr.frozen? ⟨B, j, none⟩ = false
  below : Below B w wr
  size : B < wr.heap.size

theorem RowAt.put {B : Nat} {w wr : World} {n k : Nat} {f g : Nat → Int} (h : RowAt B w wr n f) (hk : k < n) {x : Int} (hx : g k = x) (hg : ∀ j, j < n → j ≠ k → g j = f j) :
    RowAt B w (wr.setCell ⟨B, k, none⟩ (.int .i64 x)) n g := by
  refine ⟨fun j hj => ?_, fun j hj => by rw [World.frozen?_setCell]; exact h.frozen j hj, h.below.setCell (Nat.le_refl _) _, by simpa [World.setCell] using h.size⟩
  by_cases e : j = k
  · subst e
    rw [World.cell?_setCell_same _ _ _ (h.cells j hj), hx]
  · rw [World.cell?_setCell_other _ _ _ _ (by intro q; apply e; injection q with _ q2; exact q2.symm), h.cells j hj, hg j hj e]

theorem RowAt.same {B : Nat} {w wr : World} {n : Nat} {f g : Nat → Int} (h : RowAt B w wr n f) (hg : ∀ j, j < n → g j = f j) : RowAt B w wr n g :=
  ⟨fun j hj => by rw [h.cells j hj, hg j hj], h.frozen, h.below, h.size⟩

theorem RowAt.to {B : Nat} {w wr w2 : World} {n : Nat} {f : Nat → Int} (h : RowAt B w wr n f) (hb : Below wr.heap.size wr w2) : RowAt B w w2 n f :=
  ⟨fun j hj => by rw [hb.cell (p := ⟨B, j, none⟩) h.size]; exact h.cells j hj, fun j hj => by rw [hb.frozen (p := ⟨B, j, none⟩) h.size]; exact h.frozen j hj, h.below.trans (hb.mono (Nat.le_of_lt h.size)), Nat.lt_of_lt_of_le h.size hb.size⟩

theorem RowAt.ints {B : Nat} {w wr : World} {n : Nat} {f : Nat → Int} (h : RowAt B w wr n f) {zs : List Int} (hl : zs.length = n) (hz : ∀ j, j < n → nth zs j = f j) (hn : n ≤ 17592186044416) {cap : Nat} (hc : n ≤ cap) (hc2 : cap ≤ 9223372036854775807) :
    Ints wr (.slice (some ⟨B, 0, none⟩) n cap) zs :=
  ⟨_, _, _, rfl, hl, hn, ⟨hc, hc2, fun h => by cases h⟩, fun j hj => ⟨B, 0, rfl, h.size, by rw [Nat.zero_add, h.cells j (by omega), hz j (by omega)]⟩⟩

theorem rowAt_new {w w1 : World} {n : Nat} (hb : Below w.heap.size w w1) (hs : w.heap.size < w1.heap.size) (hc : ∀ j, j < n → w1.cell? ⟨w.heap.size, j, none⟩ = some (.int .i64 0) ∧ w1.frozen? ⟨w.heap.size, j, none⟩ = false)
    {f : Nat → Int} (hf : ∀ j, j < n → f j = 0) : RowAt w.heap.size w w1 n f :=
  ⟨fun j hj => by rw [hf j hj]; exact (hc j hj).1, fun j hj => (hc j hj).2, hb, hs⟩

theorem RowAt.on {B : Nat} {w wr : World} {n : Nat} {f : Nat → Int} (h : RowAt B w wr n f) {zs : List Int} (hl : zs.length = n) (hz : ∀ j, j < n → nth zs j = f j) (hn : n ≤ 17592186044416) {cap : Nat} (hc : n ≤ cap) (hc2 : cap ≤ 9223372036854775807) :
    On (fun k => B ≤ k) wr (fun w' => Ints w' (.slice (some ⟨B, 0, none⟩) n cap) zs) := by
  intro w' hs hk
  exact ⟨_, _, _, rfl, hl, hn, ⟨hc, hc2, fun h => by cases h⟩, fun j hj => ⟨B, 0, rfl, Nat.lt_of_lt_of_le h.size hs, by rw [Nat.zero_add, World.cell?_of_block (a := ⟨B, j, none⟩) (hk B h.size (Nat.le_refl _)), h.cells j (by omega), hz j (by omega)]⟩⟩

/-- A row of as many as a number says. -/
theorem make_intsZ (w : World) (n : Nat) (z : Int) (hz : z = n) (hn : n ≤ 17592186044416) :
    ∃ w1, (Instr.makeSlice 35 (.int .i64 z) (.int .i64 z)).run Try.prog w = .ok (.slice (some ⟨w.heap.size, 0, none⟩) n n) w1 ∧ RowAt w.heap.size w w1 n (fun _ => 0) := by
  subst hz
  obtain ⟨w1, h1, h2, h3, h4⟩ := make_ints w n hn
  exact ⟨w1, h1, rowAt_new h2 h3 h4 fun _ _ => rfl⟩

end Go.Proofs.Ytfgimobmaahmmaa
