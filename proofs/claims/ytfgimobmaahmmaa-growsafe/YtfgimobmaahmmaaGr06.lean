import Derived.Test.YtfgimobmaahmmaaGr01
import Derived.Maps.AppendAt
import Derived.Test.YtfgimobmaahmmaaGr05
import Derived.Deep.RegionHeld3
import Derived.Test.YtfgimobmaahmmaaGr00
/- What a reading hangs on: the blocks that must stand. -/
namespace Go.Proofs.Ytfgimobmaahmmaa
open Go.RowKit
set_option linter.unusedVariables false
set_option maxRecDepth 4000

/-- It holds here, and wherever the blocks of D that are here stand as they do. -/
def On (D : Nat → Prop) (w : World) (R : World → Prop) : Prop :=
  ∀ w' : World, w.heap.size ≤ w'.heap.size → (∀ k, k < w.heap.size → D k → w'.heap[k]? = w.heap[k]?) → R w'

theorem On.now {D : Nat → Prop} {w : World} {R : World → Prop} (h : On D w R) : R w := h w (Nat.le_refl _) fun _ _ _ => rfl

theorem On.to {D : Nat → Prop} {w w' : World} {R : World → Prop} (h : On D w R) (hs : w.heap.size ≤ w'.heap.size) (hk : ∀ k, k < w.heap.size → D k → w'.heap[k]? = w.heap[k]?) : On D w' R :=
  fun w2 h2 hk2 => h w2 (Nat.le_trans hs h2) fun k hlt hD => (hk2 k (Nat.lt_of_lt_of_le hlt hs) hD).trans (hk k hlt hD)

theorem On.weaken {D D' : Nat → Prop} {w : World} {R : World → Prop} (h : On D w R) (hD : ∀ k, k < w.heap.size → D k → D' k) : On D' w R :=
  fun w2 h2 hk => h w2 h2 fun k hlt hd => hk k hlt (hD k hlt hd)

theorem On.mono {D : Nat → Prop} {w : World} {R R' : World → Prop} (h : On D w R) (hR : ∀ w', R w' → R' w') : On D w R' := fun w2 h2 hk => hR _ (h w2 h2 hk)

theorem On.below {D : Nat → Prop} {w w' : World} {R : World → Prop} (h : On D w R) (hb : Below w.heap.size w w') : On D w' R := h.to hb.size fun k hlt _ => hb.block k hlt

theorem On.grown {D : Nat → Prop} {w w' : World} {R : World → Prop} {row : Option Nat} (h : On D w R) (hg : w.grownBy w' row) (hD : ∀ k, k < w.heap.size → D k → some k ≠ row) : On D w' R :=
  h.to hg.size fun k hlt hd => hg.block k hlt (hD k hlt hd)

theorem On.set {D : Nat → Prop} {w : World} {R : World → Prop} (h : On D w R) {a : Addr} (ha : ¬ D a.block) (u : Value) : On D (w.setCell a u) R :=
  h.to (by simp [World.setCell]) fun k _ hd => Below.heap_setCell w a u k (fun e => ha (e ▸ hd))

/-- Readings that are kept by whatever leaves all old blocks as they were. -/
theorem on_all {w : World} {R : World → Prop} (h : ∀ w', w.heap.size ≤ w'.heap.size → (∀ k, k < w.heap.size → w'.heap[k]? = w.heap[k]?) → R w') : On (fun _ => True) w R := fun w' hs hk => h w' hs fun k hlt => hk k hlt trivial

theorem cell_kept {w w' : World} {p : Addr} (h : w'.heap[p.block]? = w.heap[p.block]?) : w'.cell? p = w.cell? p := World.cell?_of_block h

/-- The row that the call itself has made hangs on blocks that were made by it. -/
theorem ownsRow_on {B : Nat} {w : World} {e : TypeId} {size : Nat} {v : Value} {n : Nat} {xs : List Value} (h : w.ownsRow B e size v n xs) : On (fun k => v.ownBlock = some k ∧ B ≤ k) w (fun w' => w'.ownsRow B e size v n xs) := by
  intro w' hs hk
  refine ⟨h.1, ?_⟩
  rcases h.2 with hn | ⟨g, cap, cur, rfl, hb, hgg, rest⟩
  · exact .inl hn
  · refine .inr ⟨g, cap, cur, rfl, hb, ?_, rest⟩
    rw [hk g (Array.getElem?_eq_some_iff.1 hgg).1 ⟨rfl, hb⟩]
    exact hgg

theorem ownsRow_ints {B : Nat} {wr : World} {v : Value} {zs : List Int} (hown : wr.ownsRow B 3 1 v zs.length (zs.map (Value.int .i64))) (hl : zs.length ≤ 17592186044416) : Ints wr v zs := by
  have hown0 := hown
  obtain ⟨_, hcase⟩ := hown
  rcases hcase with ⟨rfl, h0⟩ | ⟨g, cap', cur, rfl, hg, hh, hn, hcap, hsz, htake⟩
  · exact ⟨none, zs.length, 0, by rw [h0], rfl, hl, ⟨by omega, by omega, fun _ => rfl⟩, fun j hj => absurd hj (by omega)⟩
  · refine ⟨_, _, _, rfl, rfl, hl, ⟨hn, by unfold maxLen at hcap; omega, fun h => by cases h⟩, fun j hj => ⟨g, 0, rfl, ?_, ?_⟩⟩
    · rcases Nat.lt_or_ge g wr.heap.size with h | h
      · exact h
      · rw [Array.getElem?_eq_none h] at hh; cases hh
    · rw [Nat.zero_add, hown0.cellAt j (by omega)]
      simp [nth, List.getD, List.getElem?_eq_getElem hj]

theorem Own.on {B : Nat} {w wr : World} {v : Value} {zs : List Int} (h : Own B w wr v zs) (hl : zs.length ≤ 17592186044416) : On (fun k => B ≤ k) wr (fun w' => Ints w' v zs) :=
  ((ownsRow_on h.1).weaken fun k _ hk => hk.2).mono fun w' h' => ownsRow_ints h' hl

theorem Own.slice {B : Nat} {w wr : World} {v : Value} {zs : List Int} (h : Own B w wr v zs) : ∃ a l c, v = .slice a l c := by
  rcases h.1.2 with ⟨rfl, _⟩ | ⟨g, cap', cur, rfl, _⟩
  · exact ⟨_, _, _, rfl⟩
  · exact ⟨_, _, _, rfl⟩

theorem ownsRow_slice {B : Nat} {w : World} {e : TypeId} {size : Nat} {v : Value} {n : Nat} {xs : List Value} (h : w.ownsRow B e size v n xs) : ∃ a l c, v = .slice a l c := by
  rcases h.2 with ⟨rfl, _⟩ | ⟨g, cap', cur, rfl, _⟩
  · exact ⟨_, _, _, rfl⟩
  · exact ⟨_, _, _, rfl⟩

theorem ownsRow_lt {B : Nat} {w : World} {e : TypeId} {size : Nat} {v : Value} {n : Nat} {xs : List Value} (h : w.ownsRow B e size v n xs) {k : Nat} (hk : v.ownBlock = some k) : B ≤ k ∧ k < w.heap.size := h.lt k hk

/-- append of one element of several cells onto a row that the call itself has made, where it lies. -/
theorem wp_append_at {P : Program} {o : Oper} {a : Act} {K : Act → World → Prop} {Q : Exit → Act → World → Prop} {Y : Nat → Option Bool} (w : World) (hwt : Region.wanted o Y = true) (s x : Operand) (t : TypeId)
    (ho : o.op = .call { callee := .builtin .append, args := #[s, x], argTypes := #[t, t] })
    (base : Nat) (e : TypeId) (i : TypeInfo) (z : Value) (size bytes : Nat) (ht : P.underlying t = some (.slice e)) (hi : P.info? e = some i) (hz : i.zero = some z)
    (hsize : i.size = size) (hby : i.bytes = bytes) (hzs : z.cells.size = size) (hsz : 0 < size)
    (v : Value) (n : Nat) (xs : List Value) (hs : a.eval s = v) (hown : w.ownsRow base e size v n xs)
    (ad : Addr) (m c : Nat) (news : List Value) (hx : a.eval x = .slice (some ad) m c) (hl : news.length = m * size) (hnews : ∀ j u, news[j]? = some u → w.cell? (ad.add j) = some u) (h1 : ∀ u ∈ news, u.oneCell' = true)
    (h63 : n + m ≤ maxLen) (hbytes : (n + m) * bytes ≤ 140737488355328) (hbase : base ≤ w.heap.size)
    (h : ∀ v' w', w'.ownsRow base e size v' (n + m) (xs ++ news) → w.grownBy w' v.ownBlock → (v'.ownBlock = v.ownBlock ∨ v'.ownBlock = some w.heap.size) → K (a.put o.dst v') w') :
    if Region.wanted o Y = true then Oper.wp P o a w K Q else K (a.put o.dst undef) w := by
  rw [if_pos hwt]
  obtain ⟨v', w', hr, h2, h3, h4, h5⟩ := run_append_own_at (P := P) w base t o.type e i z size bytes ht hi hz hsize hby hzs hsz v n xs hown ad m c news hl hnews h1 h63 hbytes hbase
  unfold Oper.wp execOp
  simp only [ho, resolve, invoke, builtin, Sem.run_bind, Sem.run_pure, Result.andThen_ok, List.map_toArray, List.map_cons, List.map_nil, hs, hx, hr]
  exact h v' w' h2 h3 h5

/-- append of one number, inside a region that draws its order. -/
theorem wpr_append_int {o : Oper} {a : Act} {K : Act → World → Prop} {Q : Exit → Act → World → Prop} {Y : Nat → Option Bool} (hwt : Region.wanted o Y = true) (s x : Operand)
    (ho : o.op = .call { callee := .builtin .append, args := #[s, x], argTypes := #[35, 35] }) (B : Nat) (w wr : World) (v : Value) (zs : List Int) (z : Int) (hG : Own B w wr v zs)
    (hs : a.eval s = v) (hx : a.eval x = .slice (some ⟨wr.heap.size, 0, none⟩) 1 1) (hl : zs.length + 1 ≤ 17592186044416)
    (h : ∀ v' w', Own B w w' v' (zs ++ [z]) → K (a.put o.dst v') w') :
    if Region.wanted o Y = true then Oper.wp Try.prog o a (wr.alloc (.cells #[.int .i64 z] 3)) K Q else K (a.put o.dst undef) (wr.alloc (.cells #[.int .i64 z] 3)) := by
  obtain ⟨i0, hi, hz0, hz1, hz2⟩ := info_parts info_int
  obtain ⟨hown, hb, hB⟩ := hG
  refine wp_append_at _ hwt s x 35 ho B 3 i0 (.int .i64 0) 1 8 Try.underlying35 hi hz0 hz1 hz2 rfl (by decide) v zs.length _ hs (hown.alloc _) ⟨wr.heap.size, 0, none⟩ 1 1 [.int .i64 z] hx rfl ?_ ?_ ?_ ?_ ?_ ?_
  · intro j u hj
    match j, hj with
    | 0, hj => simp at hj; subst hj; simp [Addr.add]
  · intro u hu; simp at hu; subst hu; rfl
  · unfold maxLen; omega
  · omega
  · simp; omega
  · intro v' w' hown' hgrow _
    refine h v' w' ⟨by simpa using hown', (hb.alloc hB _).grown hgrow (by simp; omega) (fun k hk => (hown.lt k hk).1), ?_⟩
    have := hgrow.size; simp at this; omega

end Go.Proofs.Ytfgimobmaahmmaa

/- Plain words for what knots hold in memory; a store into a row that the call itself has made. -/
namespace Go.Proofs.Ytfgimobmaahmmaa
open Go.RowKit
set_option linter.unusedVariables false
set_option maxRecDepth 4000

def noKnotL : KnotL := ⟨0, 0, []⟩
def knotOf (l : List KnotL) (k : Nat) : KnotL := l.getD k noKnotL
theorem knotOf_map {s : List KnotX} {k : Nat} (h : k < s.length) : knotOf (s.map KnotX.knot) k = (knotAt s k).knot := by
  rw [knotOf, List.getD_eq_getElem?_getD, List.getElem?_map, knotAt, List.getD_eq_getElem?_getD, List.getElem?_eq_getElem h]; rfl
theorem knotOf_get {l : List KnotL} {k : Nat} (h : k < l.length) : knotOf l k = l[k] := by
  rw [knotOf, List.getD_eq_getElem?_getD, List.getElem?_eq_getElem h]; rfl

/-- A slice of knots: two numbers and a mark each. -/
def Knots (w : World) (v : Value) (l : List KnotL) : Prop :=
  ∃ a len cap, v = .slice a len cap ∧ l.length = len ∧ len ≤ 2513169434916 ∧ Shape a len cap ∧
    ∀ j, j < l.length → ∃ b off u, a = some ⟨b, off, none⟩ ∧ b < w.heap.size ∧ w.cell? ⟨b, off + j * 3, none⟩ = some (.int .i64 (knotOf l j).up) ∧
      w.cell? ⟨b, off + j * 3 + 1, none⟩ = some (.int .i64 (knotOf l j).tran) ∧ w.cell? ⟨b, off + j * 3 + 2, none⟩ = some u ∧ Ints w u (knotOf l j).mark

theorem Knots.below {w w' : World} {v : Value} {l : List KnotL} (h : Knots w v l) (hb : Below w.heap.size w w') : Knots w' v l := by
  obtain ⟨a, len, cap, e, hl, hm, hs, hr⟩ := h
  refine ⟨a, len, cap, e, hl, hm, hs, fun j hj => ?_⟩
  obtain ⟨b, off, u, ha, hlt, h0, h1, h2, hi⟩ := hr j hj
  exact ⟨b, off, u, ha, Nat.lt_of_lt_of_le hlt hb.size, by rw [hb.cell (p := ⟨b, _, none⟩) hlt]; exact h0, by rw [hb.cell (p := ⟨b, _, none⟩) hlt]; exact h1, by rw [hb.cell (p := ⟨b, _, none⟩) hlt]; exact h2, hi.below hb⟩
theorem Knots.at {w : World} {a : Option Addr} {len cap : Nat} {l : List KnotL} (h : Knots w (.slice a len cap) l) {k : Nat} (hk : k < len) :
    ∃ b off u, a = some ⟨b, off, none⟩ ∧ b < w.heap.size ∧ w.cell? ⟨b, off + k * 3, none⟩ = some (.int .i64 (knotOf l k).up) ∧
      w.cell? ⟨b, off + k * 3 + 1, none⟩ = some (.int .i64 (knotOf l k).tran) ∧ w.cell? ⟨b, off + k * 3 + 2, none⟩ = some u ∧ Ints w u (knotOf l k).mark := by
  obtain ⟨a', len', cap', e, hl, hm, hs, hr⟩ := h
  injection e with e1 e2 e3
  subst e1 e2 e3
  exact hr k (by omega)
theorem Knots.slice {w : World} {v : Value} {l : List KnotL} (h : Knots w v l) : ∃ a cap, v = .slice a l.length cap ∧ l.length ≤ 2513169434916 ∧ Shape a l.length cap := by
  obtain ⟨a, len, cap, e, hl, hm, hs, hr⟩ := h
  subst hl
  exact ⟨a, cap, e, hm, hs⟩
theorem Knots.nil (w : World) : Knots w (.slice none 0 0) [] := ⟨none, 0, 0, rfl, rfl, by omega, ⟨by omega, by omega, fun _ => rfl⟩, fun j hj => absurd hj (by simp)⟩

/-- What a call answers that makes a tree, or tells what is wrong. -/
def GivesK (w : World) (p : List KnotL × Int) (e : Ending) (w' : World) : Prop := ∃ r, e = .returned (.tuple #[r, .int .i64 p.2]) ∧ Knots w' r p.1 ∧ Below w.heap.size w w'
theorem givesK_of {w w' : World} {r : Value} {p : List KnotL × Int} {l : List KnotL} {c : Int} (hp : p = (l, c)) (hr : Knots w' r l) (hb : Below w.heap.size w w') : GivesK w p (.returned (.tuple #[r, .int .i64 c])) w' := by
  subst hp; exact ⟨r, rfl, hr, hb⟩

theorem setCell_blockK {w : World} {g off : Nat} {cur : Array Value} {e : TypeId} (h : w.heap[g]? = some (.cells cur e (0, 0))) (u : Value) : (w.setCell ⟨g, off, none⟩ u).heap[g]? = some (.cells (cur.setIfInBounds off u) e (0, 0)) := by
  have hlt : g < w.heap.size := (Array.getElem?_eq_some_iff.1 h).1
  have h' : w.heap[g] = .cells cur e (0, 0) := (Array.getElem?_eq_some_iff.1 h).2
  show (w.heap.modify g _)[g]? = _
  rw [Array.getElem?_eq_getElem (by simpa using hlt), Array.getElem_modify_self, h']
  rfl

/-- A store into a row that the call itself has made. -/
theorem ownsRow_set {B : Nat} {w : World} {e : TypeId} {g n cap : Nat} {xs : List Value} (h : w.ownsRow B e 1 (.slice (some ⟨g, 0, none⟩) n cap) n xs) {j : Nat} (hj : j < n) (u : Value) :
    (w.setCell ⟨g, j, none⟩ u).ownsRow B e 1 (.slice (some ⟨g, 0, none⟩) n cap) n (xs.set j u) := by
  obtain ⟨h1, h2⟩ := h
  refine ⟨by simpa using h1, ?_⟩
  rcases h2 with ⟨e1, _⟩ | ⟨g', cap', cur, e1, hg, hh, r1, r2, r3, r4⟩
  · cases e1
  · injection e1 with e2 e3 e4
    injection e2 with e2
    injection e2 with e2
    subst e2 e4
    refine .inr ⟨g, cap, cur.setIfInBounds j u, rfl, hg, setCell_blockK hh u, r1, r2, by simpa using r3, ?_⟩
    rw [Array.toList_setIfInBounds, ← r4, List.take_set]

theorem Own.put {B : Nat} {w wr : World} {g n cap : Nat} {zs : List Int} (h : Own B w wr (.slice (some ⟨g, 0, none⟩) n cap) zs) (hn : zs.length = n) {j : Nat} (hj : j < n) (x : Int) :
    Own B w (wr.setCell ⟨g, j, none⟩ (.int .i64 x)) (.slice (some ⟨g, 0, none⟩) n cap) (zs.set j x) := by
  obtain ⟨h1, h2, h3⟩ := h
  have hB : B ≤ g := (ownsRow_lt h1 (k := g) rfl).1
  have h1' := h1
  rw [hn] at h1'
  refine ⟨?_, h2.setCell (p := ⟨g, j, none⟩) hB _, by simpa [World.setCell] using h3⟩
  have := ownsRow_set h1' hj (.int .i64 x)
  rw [List.length_set, hn, List.map_set]
  exact this
theorem Own.cell {B : Nat} {w wr : World} {g n cap : Nat} {zs : List Int} (h : Own B w wr (.slice (some ⟨g, 0, none⟩) n cap) zs) (hn : zs.length = n) {j : Nat} (hj : j < n) :
    wr.cell? ⟨g, j, none⟩ = some (.int .i64 (nth zs j)) ∧ wr.frozen? ⟨g, j, none⟩ = false ∧ g < wr.heap.size := by
  have h1 := h.1
  rw [hn] at h1
  have hc := h1.cellAt j (by omega)
  obtain ⟨_, hk⟩ := h.1
  rcases hk with ⟨e1, _⟩ | ⟨g', cap', cur, e1, hg, hh, _⟩
  · cases e1
  · injection e1 with e2 e3 e4
    injection e2 with e2
    injection e2 with e2
    subst e2
    refine ⟨by rw [hc]; simp [nth, List.getD, List.getElem?_eq_getElem (show j < zs.length by omega)], by simp [World.frozen?, hh], (Array.getElem?_eq_some_iff.1 hh).1⟩

end Go.Proofs.Ytfgimobmaahmmaa

/- A tree while it is built: where it lies, and what it hangs on. -/
namespace Go.Proofs.Ytfgimobmaahmmaa
open Go.RowKit
set_option linter.unusedVariables false
set_option maxRecDepth 4000

def valAt (l : List Value) (j : Nat) : Value := l.getD j undef
theorem valAt_append {l r : List Value} {k : Nat} (h : k < l.length) : valAt (l ++ r) k = valAt l k := by
  rw [valAt, valAt, List.getD_eq_getElem?_getD, List.getD_eq_getElem?_getD, List.getElem?_append_left h]
theorem valAt_last (l : List Value) (x : Value) : valAt (l ++ [x]) l.length = x := by
  rw [valAt, List.getD_eq_getElem?_getD, List.getElem?_append_right (Nat.le_refl _)]; simp
theorem valAt_get {l : List Value} {k : Nat} (h : k < l.length) : l[k]? = some (valAt l k) := by
  rw [valAt, List.getD_eq_getElem?_getD, List.getElem?_eq_getElem h]; rfl
def valsAt (l : List (List Value)) (j : Nat) : List Value := l.getD j []
theorem valsAt_append {l r : List (List Value)} {k : Nat} (h : k < l.length) : valsAt (l ++ r) k = valsAt l k := by
  rw [valsAt, valsAt, List.getD_eq_getElem?_getD, List.getD_eq_getElem?_getD, List.getElem?_append_left h]
theorem valsAt_last (l : List (List Value)) (x : List Value) : valsAt (l ++ [x]) l.length = x := by
  rw [valsAt, List.getD_eq_getElem?_getD, List.getElem?_append_right (Nat.le_refl _)]; simp

/-- Three cells each. -/
def triTo (f g h : Nat → Value) : Nat → List Value
  | 0 => []
  | n + 1 => triTo f g h n ++ [f n, g n, h n]
theorem triTo_length (f g h : Nat → Value) : ∀ n, (triTo f g h n).length = n * 3
  | 0 => rfl
  | n + 1 => by rw [triTo, List.length_append, triTo_length f g h n]; simp; omega
theorem triTo_congr {f g h f' g' h' : Nat → Value} : ∀ {n : Nat}, (∀ j, j < n → f j = f' j ∧ g j = g' j ∧ h j = h' j) → triTo f g h n = triTo f' g' h' n
  | 0, _ => rfl
  | n + 1, e => by
    obtain ⟨e1, e2, e3⟩ := e n (by omega)
    rw [triTo, triTo, triTo_congr fun j hj => e j (by omega), e1, e2, e3]
theorem triTo_at (f g h : Nat → Value) : ∀ {n j : Nat}, j < n → (triTo f g h n)[j * 3]? = some (f j) ∧ (triTo f g h n)[j * 3 + 1]? = some (g j) ∧ (triTo f g h n)[j * 3 + 2]? = some (h j)
  | 0, j, hj => by omega
  | n + 1, j, hj => by
    have hl := triTo_length f g h n
    rw [triTo]
    by_cases e : j < n
    · obtain ⟨q1, q2, q3⟩ := triTo_at f g h e
      rw [List.getElem?_append_left (by omega), List.getElem?_append_left (by omega), List.getElem?_append_left (by omega)]
      exact ⟨q1, q2, q3⟩
    · have e : j = n := by omega
      subst e
      rw [List.getElem?_append_right (by omega), List.getElem?_append_right (by omega), List.getElem?_append_right (by omega), hl]
      have k1 : j * 3 - j * 3 = 0 := by omega
      have k2 : j * 3 + 1 - j * 3 = 1 := by omega
      have k3 : j * 3 + 2 - j * 3 = 2 := by omega
      rw [k1, k2, k3]
      exact ⟨rfl, rfl, rfl⟩

def knotCells (s : List KnotX) (ms : List Value) : List Value := triTo (fun j => .int .i64 (knotAt s j).up) (fun j => .int .i64 (knotAt s j).tran) (valAt ms) s.length
theorem knotCells_append (s : List KnotX) (ms : List Value) (x : KnotX) (v : Value) (hl : ms.length = s.length) : knotCells (s ++ [x]) (ms ++ [v]) = knotCells s ms ++ [.int .i64 x.up, .int .i64 x.tran, v] := by
  unfold knotCells
  rw [List.length_append]
  show triTo _ _ _ (s.length + 1) = _
  rw [triTo, knotAt_last]
  rw [triTo_congr (f' := fun j => .int .i64 (knotAt s j).up) (g' := fun j => .int .i64 (knotAt s j).tran) (h' := valAt ms) (fun j hj => by rw [knotAt_append hj, valAt_append (by omega)]; exact ⟨rfl, rfl, rfl⟩)]
  rw [← hl, valAt_last]

/-- A slice of these slices, whose elements are these values. -/
def ListsV (w : World) (v : Value) (us : List Value) (ls : List (List Int)) : Prop :=
  ∃ a len cap, v = .slice a len cap ∧ us.length = len ∧ ls.length = len ∧ Shape a len cap ∧
    ∀ j, j < len → ∃ b off, a = some ⟨b, off, none⟩ ∧ b < w.heap.size ∧ w.cell? ⟨b, off + j, none⟩ = some (valAt us j) ∧ (valAt us j).oneCell' = true ∧ Ints w (valAt us j) (markAt ls j)
theorem ListsV.lists {w : World} {v : Value} {us : List Value} {ls : List (List Int)} (h : ListsV w v us ls) (hl : ls.length ≤ 5864062014805) : Lists w v ls := by
  obtain ⟨a, len, cap, e, h1, h2, h3, h4⟩ := h
  refine ⟨a, len, cap, e, h2, by omega, h3, fun j hj => ?_⟩
  obtain ⟨b, off, q1, q2, q3, _, q4⟩ := h4 j (by omega)
  exact ⟨b, off, valAt us j, q1, q2, q3, q4⟩
theorem ListsV.nil (w : World) : ListsV w (.slice none 0 0) [] [] := ⟨none, 0, 0, rfl, rfl, rfl, ⟨by omega, by omega, fun _ => rfl⟩, fun j hj => absurd hj (by omega)⟩

/-- Apart from both rows. -/
def Off (ov lv : Value) (b : Nat) : Prop := ov.ownBlock ≠ some b ∧ lv.ownBlock ≠ some b

end Go.Proofs.Ytfgimobmaahmmaa

/- A space while it is built: where it lies, and what it hangs on. -/
namespace Go.Proofs.Ytfgimobmaahmmaa
open Go.RowKit
set_option linter.unusedVariables false
set_option maxRecDepth 4000

theorem Row.blocks {w w' : World} {a : Option Addr} {xs : List Int} (h : Row w a xs) (hs : w.heap.size ≤ w'.heap.size) (hk : ∀ k, k < w.heap.size → w'.heap[k]? = w.heap[k]?) : Row w' a xs := by
  intro j hj
  obtain ⟨b, off, ha, hlt, hc⟩ := h j hj
  exact ⟨b, off, ha, Nat.lt_of_lt_of_le hlt hs, by rw [World.cell?_of_block (a := ⟨b, off + j, none⟩) (hk b hlt)]; exact hc⟩
theorem ints_old {w : World} {v : Value} {xs : List Int} (h : Ints w v xs) : On (fun k => k < w.heap.size) w (fun w' => Ints w' v xs) := by
  intro w' hs hk
  obtain ⟨a, len, cap, e, hl, hm, hsh, hr⟩ := h
  exact ⟨a, len, cap, e, hl, hm, hsh, hr.blocks hs fun k hlt => hk k hlt hlt⟩

theorem info_ints : (Try.prog.info? 35).map (fun i => (i.zero, i.size, i.bytes)) = some (some (.slice none 0 0), 1, 24) := by kernel_rfl
theorem info_arc : (Try.prog.info? 109).map (fun i => (i.zero, i.size, i.bytes)) = some (some (.agg #[.int .i64 0, .int .i64 0, .int .i64 0]), 3, 24) := by kernel_rfl

/-- The cells of arcs. -/
def arcCells (l : List ArcL) : List Value := l.flatMap fun a => [.int .i64 (a.frm : Int), .int .i64 (a.tran : Int), .int .i64 (a.dst : Int)]
theorem arcCells_length (l : List ArcL) : (arcCells l).length = l.length * 3 := by
  unfold arcCells
  induction l with
  | nil => rfl
  | cons x r ih => simp only [List.flatMap_cons, List.length_append, ih, List.length_cons, List.length_nil]; omega
theorem arcCells_append (l : List ArcL) (a : ArcL) : arcCells (l ++ [a]) = arcCells l ++ [.int .i64 (a.frm : Int), .int .i64 (a.tran : Int), .int .i64 (a.dst : Int)] := by simp [arcCells]
theorem arcCells_at (l : List ArcL) (j : Nat) (h : j < l.length) :
    (arcCells l)[j * 3]? = some (.int .i64 (l[j].frm : Int)) ∧ (arcCells l)[j * 3 + 1]? = some (.int .i64 (l[j].tran : Int)) ∧ (arcCells l)[j * 3 + 2]? = some (.int .i64 (l[j].dst : Int)) := by
  induction l generalizing j with
  | nil => simp at h
  | cons x r ih =>
    have ec : arcCells (x :: r) = .int .i64 (x.frm : Int) :: .int .i64 (x.tran : Int) :: .int .i64 (x.dst : Int) :: arcCells r := rfl
    match j, h with
    | 0, _ => exact ⟨rfl, rfl, rfl⟩
    | j + 1, h =>
      obtain ⟨q1, q2, q3⟩ := ih j (by simpa using h)
      rw [ec, show (j + 1) * 3 = j * 3 + 3 by omega]
      exact ⟨q1, q2, q3⟩

/-- The space s lies at block x; its two rows are the call's own; the marks hang on none of these, nor on block y. -/
structure SpaceAt (x y B : Nat) (W wr : World) (s : SpaceL) (mv av : Value) (us : List Value) : Prop where
  rowM : wr.ownsRow B 35 1 mv us.length us
  rowA : wr.ownsRow B 109 3 av s.arcs.length (arcCells s.arcs)
  below : Below B W wr
  hx : B ≤ x
  hlt : x < wr.heap.size
  hy : y < B
  c0 : wr.cell? ⟨x, 0, none⟩ = some mv
  c1 : wr.cell? ⟨x, 1, none⟩ = some av
  f0 : wr.frozen? ⟨x, 0, none⟩ = false
  f1 : wr.frozen? ⟨x, 1, none⟩ = false
  apM : mv.ownBlock ≠ some x
  apA : av.ownBlock ≠ some x
  apMA : ∀ k, mv.ownBlock = some k → av.ownBlock ≠ some k
  len : us.length = s.marks.length
  els : ∀ j (hj : j < us.length), us[j].oneCell' = true ∧ On (fun k => k ≠ x ∧ k ≠ y ∧ mv.ownBlock ≠ some k ∧ av.ownBlock ≠ some k) wr (fun w' => Ints w' us[j] (markAt s.marks j))

theorem SpaceAt.to {x y B : Nat} {W wr w' : World} {s : SpaceL} {mv av : Value} {us : List Value} (h : SpaceAt x y B W wr s mv av us) (hb : Below wr.heap.size wr w') : SpaceAt x y B W w' s mv av us :=
  { h with
    rowM := ((ownsRow_on h.rowM).below hb).now
    rowA := ((ownsRow_on h.rowA).below hb).now
    below := h.below.trans (hb.mono (Nat.le_trans h.hx (Nat.le_of_lt h.hlt)))
    hlt := Nat.lt_of_lt_of_le h.hlt hb.size
    c0 := by rw [hb.cell (p := ⟨x, 0, none⟩) h.hlt]; exact h.c0
    c1 := by rw [hb.cell (p := ⟨x, 1, none⟩) h.hlt]; exact h.c1
    f0 := by rw [hb.frozen (p := ⟨x, 0, none⟩) h.hlt]; exact h.f0
    f1 := by rw [hb.frozen (p := ⟨x, 1, none⟩) h.hlt]; exact h.f1
    els := fun j hj => ⟨(h.els j hj).1, (h.els j hj).2.below hb⟩ }

/-- What a row grows by, and a store at block x, leave. -/
theorem grown_set {x : Nat} {w wC : World} {row : Option Nat} (hg : w.grownBy wC row) (a : Addr) (ha : a.block = x) (u : Value) {k : Nat} (hlt : k < w.heap.size) (hk : k ≠ x) (hr : row ≠ some k) :
    (wC.setCell a u).heap[k]? = w.heap[k]? := by
  rw [Below.heap_setCell wC a u k (by rw [ha]; exact hk)]
  exact hg.block k hlt (fun e => hr e.symm)

/-- One more mark. -/
theorem SpaceAt.mark {x y B : Nat} {W wr wC : World} {s : SpaceL} {mv av mv' r : Value} {us : List Value} {z : List Int} (h : SpaceAt x y B W wr s mv av us) (h1 : r.oneCell' = true)
    (hr : On (fun k => k ≠ x ∧ k ≠ y ∧ mv.ownBlock ≠ some k ∧ av.ownBlock ≠ some k) wr (fun w' => Ints w' r z))
    (hown : wC.ownsRow B 35 1 mv' (us.length + 1) (us ++ [r])) (hg : wr.grownBy wC mv.ownBlock) (hat : mv'.ownBlock = mv.ownBlock ∨ mv'.ownBlock = some wr.heap.size) :
    SpaceAt x y B W (wC.setCell ⟨x, 0, none⟩ mv') ⟨s.marks ++ [z], s.arcs⟩ mv' av (us ++ [r]) := by
  have hsz : wr.heap.size ≤ (wC.setCell ⟨x, 0, none⟩ mv').heap.size := Nat.le_trans hg.size (by simp [World.setCell])
  have hM : ∀ k, mv.ownBlock = some k → B ≤ k ∧ k < wr.heap.size := fun k hk => ownsRow_lt h.rowM hk
  have hA : ∀ k, av.ownBlock = some k → B ≤ k ∧ k < wr.heap.size := fun k hk => ownsRow_lt h.rowA hk
  have hcx : wC.heap[x]? = wr.heap[x]? := hg.block x h.hlt (fun e => h.apM e.symm)
  have apM' : mv'.ownBlock ≠ some x := by
    rcases hat with e | e <;> rw [e]
    · exact h.apM
    · have := h.hlt; simp; omega
  have keep : ∀ {R : World → Prop}, On (fun k => k ≠ x ∧ k ≠ y ∧ mv.ownBlock ≠ some k ∧ av.ownBlock ≠ some k) wr R → On (fun k => k ≠ x ∧ k ≠ y ∧ mv'.ownBlock ≠ some k ∧ av.ownBlock ≠ some k) (wC.setCell ⟨x, 0, none⟩ mv') R := by
    intro R hR w2 hs2 hk2
    refine hR w2 (Nat.le_trans hsz hs2) fun k hlt ⟨q1, q2, q3, q4⟩ => ?_
    have q5 : mv'.ownBlock ≠ some k := by
      rcases hat with e | e <;> rw [e]
      · exact q3
      · simp; omega
    rw [hk2 k (Nat.lt_of_lt_of_le hlt hsz) ⟨q1, q2, q5, q4⟩]
    exact grown_set hg ⟨x, 0, none⟩ rfl mv' hlt q1 q3
  refine ⟨?_, ?_, ?_, h.hx, Nat.lt_of_lt_of_le h.hlt hsz, h.hy, ?_, ?_, ?_, ?_, apM', h.apA, ?_, by simp [h.len], fun j hj => ?_⟩
  · have := (ownsRow_on hown).set (a := ⟨x, 0, none⟩) (fun e => apM' e.1) mv'
    simpa using this.now
  · have q := (ownsRow_on h.rowA).to (w' := wC.setCell ⟨x, 0, none⟩ mv') hsz (fun k hlt hk => grown_set hg ⟨x, 0, none⟩ rfl mv' hlt (fun (e : k = x) => h.apA (by rw [← e]; exact hk.1)) (fun e => h.apMA k e hk.1))
    exact q.now
  · exact (h.below.grown hg (Nat.le_trans h.hx (Nat.le_of_lt h.hlt)) (fun k hk => (hM k hk).1)).setCell (p := ⟨x, 0, none⟩) h.hx _
  · exact World.cell?_setCell_same _ _ _ ((World.cell?_of_block (a := ⟨x, 0, none⟩) hcx).trans h.c0)
  · rw [World.cell?_setCell_other _ _ _ _ (by intro q; injection q with _ q2; omega)]; exact (World.cell?_of_block (a := ⟨x, 1, none⟩) hcx).trans h.c1
  · rw [World.frozen?_setCell]; exact (World.frozen?_of_block (a := ⟨x, 0, none⟩) hcx).trans h.f0
  · rw [World.frozen?_setCell]; exact (World.frozen?_of_block (a := ⟨x, 1, none⟩) hcx).trans h.f1
  · intro k hk e
    rcases hat with q | q
    · rw [q] at hk; exact h.apMA k hk e
    · rw [q] at hk; injection hk with hk; have := (hA k e).2; omega
  · by_cases hjl : j < us.length
    · rw [List.getElem_append_left hjl]
      have e : markAt (s.marks ++ [z]) j = markAt s.marks j := markAt_append (by rw [← h.len]; exact hjl)
      exact ⟨(h.els j hjl).1, by show On _ _ (fun w' => Ints w' us[j] (markAt (s.marks ++ [z]) j)); rw [e]; exact keep (h.els j hjl).2⟩
    · have e : j = us.length := by simp at hj; omega
      subst e
      rw [List.getElem_append_right (Nat.le_refl _)]
      simp only [Nat.sub_self, List.getElem_cons_zero]
      refine ⟨h1, ?_⟩
      show On _ _ (fun w' => Ints w' r (markAt (s.marks ++ [z]) us.length))
      rw [h.len, markAt_last]
      exact keep hr

/-- One more arc. -/
theorem SpaceAt.arc {x y B : Nat} {W wr wC : World} {s : SpaceL} {mv av av' : Value} {us : List Value} {a : ArcL} (h : SpaceAt x y B W wr s mv av us)
    (hown : wC.ownsRow B 109 3 av' (s.arcs.length + 1) (arcCells s.arcs ++ [.int .i64 (a.frm : Int), .int .i64 (a.tran : Int), .int .i64 (a.dst : Int)])) (hg : wr.grownBy wC av.ownBlock) (hat : av'.ownBlock = av.ownBlock ∨ av'.ownBlock = some wr.heap.size) :
    SpaceAt x y B W (wC.setCell ⟨x, 1, none⟩ av') ⟨s.marks, s.arcs ++ [a]⟩ mv av' us := by
  have hsz : wr.heap.size ≤ (wC.setCell ⟨x, 1, none⟩ av').heap.size := Nat.le_trans hg.size (by simp [World.setCell])
  have hM : ∀ k, mv.ownBlock = some k → B ≤ k ∧ k < wr.heap.size := fun k hk => ownsRow_lt h.rowM hk
  have hA : ∀ k, av.ownBlock = some k → B ≤ k ∧ k < wr.heap.size := fun k hk => ownsRow_lt h.rowA hk
  have hcx : wC.heap[x]? = wr.heap[x]? := hg.block x h.hlt (fun e => h.apA e.symm)
  have apA' : av'.ownBlock ≠ some x := by
    rcases hat with e | e <;> rw [e]
    · exact h.apA
    · have := h.hlt; simp; omega
  refine ⟨?_, ?_, ?_, h.hx, Nat.lt_of_lt_of_le h.hlt hsz, h.hy, ?_, ?_, ?_, ?_, h.apM, apA', ?_, h.len, fun j hj => ⟨(h.els j hj).1, ?_⟩⟩
  · have q := (ownsRow_on h.rowM).to (w' := wC.setCell ⟨x, 1, none⟩ av') hsz (fun k hlt hk => grown_set hg ⟨x, 1, none⟩ rfl av' hlt (fun (e : k = x) => h.apM (by rw [← e]; exact hk.1)) (h.apMA k hk.1))
    exact q.now
  · have := (ownsRow_on hown).set (a := ⟨x, 1, none⟩) (fun e => apA' e.1) av'
    show World.ownsRow _ B 109 3 av' (s.arcs ++ [a]).length (arcCells (s.arcs ++ [a]))
    rw [arcCells_append]
    simpa using this.now
  · exact (h.below.grown hg (Nat.le_trans h.hx (Nat.le_of_lt h.hlt)) (fun k hk => (hA k hk).1)).setCell (p := ⟨x, 1, none⟩) h.hx _
  · rw [World.cell?_setCell_other _ _ _ _ (by intro q; injection q with _ q2; omega)]; exact (World.cell?_of_block (a := ⟨x, 0, none⟩) hcx).trans h.c0
  · exact World.cell?_setCell_same _ _ _ ((World.cell?_of_block (a := ⟨x, 1, none⟩) hcx).trans h.c1)
  · rw [World.frozen?_setCell]; exact (World.frozen?_of_block (a := ⟨x, 0, none⟩) hcx).trans h.f0
  · rw [World.frozen?_setCell]; exact (World.frozen?_of_block (a := ⟨x, 1, none⟩) hcx).trans h.f1
  · intro k hk e
    rcases hat with q | q
    · rw [q] at e; exact h.apMA k hk e
    · rw [q] at e; injection e with e; have := (hM k hk).2; omega
  · intro w2 hs2 hk2
    refine (h.els j hj).2 w2 (Nat.le_trans hsz hs2) fun k hlt ⟨q1, q2, q3, q4⟩ => ?_
    have q5 : av'.ownBlock ≠ some k := by
      rcases hat with e | e <;> rw [e]
      · exact q4
      · simp; omega
    rw [hk2 k (Nat.lt_of_lt_of_le hlt hsz) ⟨q1, q2, q3, q5⟩]
    exact grown_set hg ⟨x, 1, none⟩ rfl av' hlt q1 q4

/-- Its marks, read. -/
theorem SpaceAt.lists {x y B : Nat} {W wr : World} {s : SpaceL} {mv av : Value} {us : List Value} (h : SpaceAt x y B W wr s mv av us) (hl : us.length ≤ 5864062014805) : Lists wr mv s.marks := by
  have hown := h.rowM
  obtain ⟨_, hcase⟩ := hown
  rcases hcase with ⟨e, h0⟩ | ⟨g, cap', cur, e, hg, hh, hn, hcap, hsz, htake⟩
  · exact ⟨none, us.length, 0, by rw [e, h0], h.len.symm, by omega, ⟨by omega, by omega, fun _ => rfl⟩, fun j hj => absurd hj (by have := h.len; omega)⟩
  · refine ⟨_, us.length, _, e, h.len.symm, by omega, ⟨hn, by unfold maxLen at hcap; omega, fun h => by cases h⟩, fun j hj => ?_⟩
    have hj' : j < us.length := by have := h.len; omega
    refine ⟨g, 0, us[j], rfl, ?_, ?_, (h.els j hj').2.now⟩
    · rcases Nat.lt_or_ge g wr.heap.size with q | q
      · exact q
      · rw [Array.getElem?_eq_none q] at hh; cases hh
    · have hown2 := h.rowM
      rw [e] at hown2
      rw [Nat.zero_add, hown2.cellAt j (by omega), List.getElem?_eq_getElem hj']
theorem SpaceAt.arcsR {x y B : Nat} {W wr : World} {s : SpaceL} {mv av : Value} {us : List Value} (h : SpaceAt x y B W wr s mv av us) (hl : s.arcs.length ≤ 5864062014805) : Arcs wr av (s.arcs.map arcZ) := by
  have hown := h.rowA
  obtain ⟨_, hcase⟩ := hown
  rcases hcase with ⟨e, h0⟩ | ⟨g, cap', cur, e, hg, hh, hn, hcap, hsz, htake⟩
  · exact ⟨none, s.arcs.length, 0, by rw [e, h0], by simp, by omega, ⟨by omega, by omega, fun _ => rfl⟩, fun j hj => absurd hj (by simp; omega)⟩
  · refine ⟨_, s.arcs.length, _, e, by simp, by omega, ⟨hn, by unfold maxLen at hcap; omega, fun h => by cases h⟩, fun j hj => ?_⟩
    have hj' : j < s.arcs.length := by simpa using hj
    have hown2 := h.rowA
    rw [e] at hown2
    obtain ⟨q1, q2, q3⟩ := arcCells_at s.arcs j hj'
    refine ⟨g, 0, rfl, ?_, ?_, ?_, ?_⟩
    · rcases Nat.lt_or_ge g wr.heap.size with q | q
      · exact q
      · rw [Array.getElem?_eq_none q] at hh; cases hh
    · rw [Nat.zero_add, hown2.cellAt (j * 3) (by omega), q1, List.getElem_map]; rfl
    · rw [Nat.zero_add, hown2.cellAt (j * 3 + 1) (by omega), q2, List.getElem_map]; rfl
    · rw [Nat.zero_add, hown2.cellAt (j * 3 + 2) (by omega), q3, List.getElem_map]; rfl

end Go.Proofs.Ytfgimobmaahmmaa

/- The answers of the document itself for nets, with what they hang on: one fires. -/
namespace Go.Proofs.Ytfgimobmaahmmaa
open Go.RowKit
set_option linter.unusedVariables false
set_option maxRecDepth 4000

/-- What a call answers that makes a mark anew, or tells what is wrong: the mark hangs on new blocks alone. -/
def GivesO (w : World) (p : List Int × Int) (e : Ending) (w' : World) : Prop :=
  ∃ r, e = .returned (.tuple #[r, .int .i64 p.2]) ∧ On (fun k => w.heap.size ≤ k) w' (fun w'' => Ints w'' r p.1) ∧ Below w.heap.size w w'

theorem givesO_of {w w' : World} {r : Value} {p : List Int × Int} {zs : List Int} {c : Int} (hp : p = (zs, c)) (hr : On (fun k => w.heap.size ≤ k) w' (fun w'' => Ints w'' r zs)) (hb : Below w.heap.size w w') : GivesO w p (.returned (.tuple #[r, .int .i64 c])) w' := by
  subst hp; exact ⟨r, rfl, hr, hb⟩
theorem on_nil (D : Nat → Prop) (w : World) : On D w (fun w' => Ints w' (.slice none 0 0) []) := fun w' _ _ => Ints.nil w'

end Go.Proofs.Ytfgimobmaahmmaa

/- The answers of the document itself for reach: all marks. -/
namespace Go.Proofs.Ytfgimobmaahmmaa
open Go.RowKit
set_option linter.unusedVariables false
set_option maxRecDepth 4000

theorem SpaceAt.sliceM {x y B : Nat} {W wr : World} {s : SpaceL} {mv av : Value} {us : List Value} (h : SpaceAt x y B W wr s mv av us) : ∃ a cap, mv = .slice a s.marks.length cap := by
  rcases h.rowM.2 with ⟨e, h0⟩ | ⟨g, cap', cur, e, _⟩
  · exact ⟨none, 0, by rw [e, ← h.len, h0]⟩
  · exact ⟨_, _, by rw [e, h.len]⟩
theorem SpaceAt.sliceA {x y B : Nat} {W wr : World} {s : SpaceL} {mv av : Value} {us : List Value} (h : SpaceAt x y B W wr s mv av us) : ∃ a cap, av = .slice a s.arcs.length cap := by
  rcases h.rowA.2 with ⟨e, h0⟩ | ⟨g, cap', cur, e, _⟩
  · exact ⟨none, 0, by rw [e, h0]⟩
  · exact ⟨_, _, e⟩

theorem space_start (W : World) (u : Value) (m : List Int) (y : Nat) (hy : y < W.heap.size) (h1 : u.oneCell' = true) (hu : On (fun k => k ≠ y ∧ k < W.heap.size) W (fun w' => Ints w' u m)) :
    SpaceAt (W.heap.size + 1) y W.heap.size W ((W.alloc (.cells #[u] 35)).alloc (.cells #[.slice (some ⟨W.heap.size, 0, none⟩) 1 1, .slice none 0 0] 71)) ⟨[m], []⟩ (.slice (some ⟨W.heap.size, 0, none⟩) 1 1) (.slice none 0 0) [u] := by
  have b1 := below_new W (.cells #[u] 35)
  have b2 := below_new (W.alloc (.cells #[u] 35)) (.cells #[.slice (some ⟨W.heap.size, 0, none⟩) 1 1, .slice none 0 0] 71)
  have e1 : (W.alloc (.cells #[u] 35)).heap.size = W.heap.size + 1 := by simp
  have hx := box2_new (W.alloc (.cells #[u] 35)) (.slice (some ⟨W.heap.size, 0, none⟩) 1 1) (.slice none 0 0) 71
  rw [e1] at hx
  refine ⟨⟨by simp, .inr ⟨W.heap.size, 1, #[u], rfl, Nat.le_refl _, ?_, by simp, by unfold maxLen; omega, by simp, by simp⟩⟩, World.ownsRow_nil _ _ _ _, below_then b1 b2, by omega, by simp, hy, hx.2.1, hx.2.2, ?_, ?_, ?_, ?_, ?_, by simp, ?_⟩
  · rw [b2.block W.heap.size (by simp)]
    exact heap_alloc_new W _
  · rw [World.frozen?_alloc_at _ _ _ _ (by simp)]
  · rw [World.frozen?_alloc_at _ _ _ _ (by simp)]
  · simp [Value.ownBlock]
  · simp [Value.ownBlock]
  · intro k _; simp [Value.ownBlock]
  · intro j hj
    have e : j = 0 := by simpa using hj
    subst e
    refine ⟨h1, ?_⟩
    have q := (hu.below b1).below b2
    refine q.weaken fun k hlt hk => ⟨by omega, hk.1, ?_, by simp [Value.ownBlock]⟩
    simp [Value.ownBlock]; omega

/-- What is handed back: the space, in the block of the answer. -/
theorem SpaceAt.out {x y B : Nat} {W wr : World} {s : SpaceL} {mv av : Value} {us : List Value} (h : SpaceAt x y B W wr s mv av us) (hl : us.length ≤ 5864062014805) (hl2 : s.arcs.length ≤ 5864062014805) :
    Lists ((wr.setCell ⟨y, 0, none⟩ mv).setCell ⟨y, 1, none⟩ av) mv s.marks ∧ Arcs ((wr.setCell ⟨y, 0, none⟩ mv).setCell ⟨y, 1, none⟩ av) av (s.arcs.map arcZ) := by
  have hy := h.hy
  have hxy : x ≠ y := by have := h.hx; omega
  have hM : ∀ k, mv.ownBlock = some k → B ≤ k := fun k hk => (ownsRow_lt h.rowM hk).1
  have hA : ∀ k, av.ownBlock = some k → B ≤ k := fun k hk => (ownsRow_lt h.rowA hk).1
  have key : ∀ (o : Nat) (u : Value) (w1 : World), SpaceAt x y B w1 w1 s mv av us → SpaceAt x y B (w1.setCell ⟨y, o, none⟩ u) (w1.setCell ⟨y, o, none⟩ u) s mv av us := by
    intro o u w1 g
    have hc : (w1.setCell ⟨y, o, none⟩ u).heap[x]? = w1.heap[x]? := Below.heap_setCell w1 ⟨y, o, none⟩ u x hxy
    exact { g with
      rowM := ((ownsRow_on g.rowM).set (a := ⟨y, o, none⟩) (fun e => by have := hM y e.1; omega) u).now
      rowA := ((ownsRow_on g.rowA).set (a := ⟨y, o, none⟩) (fun e => by have := hA y e.1; omega) u).now
      below := Below.refl _ _
      hlt := by have := g.hlt; simp [World.setCell]; omega
      c0 := (World.cell?_of_block (a := ⟨x, 0, none⟩) hc).trans g.c0
      c1 := (World.cell?_of_block (a := ⟨x, 1, none⟩) hc).trans g.c1
      f0 := (World.frozen?_of_block (a := ⟨x, 0, none⟩) hc).trans g.f0
      f1 := (World.frozen?_of_block (a := ⟨x, 1, none⟩) hc).trans g.f1
      els := fun j hj => ⟨(g.els j hj).1, (g.els j hj).2.set (a := ⟨y, o, none⟩) (fun e => e.2.1 rfl) u⟩ }
  have g0 : SpaceAt x y B wr wr s mv av us := { h with below := Below.refl _ _ }
  have g2 := key 1 av _ (key 0 mv _ g0)
  exact ⟨g2.lists hl, g2.arcsR hl2⟩

theorem wp_append_mark {ops : Array Oper} {rest : List Oper} {o : Oper} {a : Act} {Q : Exit → Act → World → Prop} (hgd : o.guard = none) (s x : Operand)
    (ho : o.op = .call { callee := .builtin .append, args := #[s, x], argTypes := #[68, 68] }) (B : Nat) (wr : World) (v : Value) (us : List Value) (ax : Option Addr) (lx cx : Nat)
    (hown : wr.ownsRow B 35 1 v us.length us) (hs : a.eval s = v) (hx : a.eval x = .slice (some ⟨wr.heap.size, 0, none⟩) 1 1) (hl : us.length + 1 ≤ 5864062014805) (hB : B ≤ wr.heap.size)
    (h : ∀ v' w', w'.ownsRow B 35 1 v' (us.length + 1) (us ++ [.slice ax lx cx]) → (wr.alloc (.cells #[.slice ax lx cx] 35)).grownBy w' v.ownBlock →
      (v'.ownBlock = v.ownBlock ∨ v'.ownBlock = some (wr.alloc (.cells #[.slice ax lx cx] 35)).heap.size) → wpList Try.prog ops Q rest (a.put o.dst v') w') :
    wpList Try.prog ops Q (o :: rest) a (wr.alloc (.cells #[.slice ax lx cx] 35)) := by
  obtain ⟨i0, hi, hz0, hz1, hz2⟩ := info_parts info_ints
  refine wpList_append_own_at _ hgd s x 68 ho B 35 i0 _ 1 24 Try.underlying68 hi hz0 hz1 hz2 rfl (by decide) v us.length _ hs (hown.alloc _) ⟨wr.heap.size, 0, none⟩ 1 1 [.slice ax lx cx] hx rfl (cell_one_new _ _ _) ?_ ?_ ?_ ?_ ?_
  · intro u hu; simp at hu; subst hu; rfl
  · unfold maxLen; omega
  · omega
  · simp; omega
  · intro v' w' h1 h2 _ h3
    exact h v' w' h1 h2 h3

theorem wp_append_arc {ops : Array Oper} {rest : List Oper} {o : Oper} {a : Act} {Q : Exit → Act → World → Prop} (hgd : o.guard = none) (s x : Operand)
    (ho : o.op = .call { callee := .builtin .append, args := #[s, x], argTypes := #[69, 69] }) (B : Nat) (wr : World) (v : Value) (l : List ArcL) (f t g : Int)
    (hown : wr.ownsRow B 109 3 v l.length (arcCells l)) (hs : a.eval s = v) (hx : a.eval x = .slice (some ⟨wr.heap.size, 0, none⟩) 1 1) (hl : l.length + 1 ≤ 5864062014805) (hB : B ≤ wr.heap.size)
    (h : ∀ v' w', w'.ownsRow B 109 3 v' (l.length + 1) (arcCells l ++ [.int .i64 f, .int .i64 t, .int .i64 g]) → (wr.alloc (.cells #[.int .i64 f, .int .i64 t, .int .i64 g] 109)).grownBy w' v.ownBlock →
      (v'.ownBlock = v.ownBlock ∨ v'.ownBlock = some (wr.alloc (.cells #[.int .i64 f, .int .i64 t, .int .i64 g] 109)).heap.size) → wpList Try.prog ops Q rest (a.put o.dst v') w') :
    wpList Try.prog ops Q (o :: rest) a (wr.alloc (.cells #[.int .i64 f, .int .i64 t, .int .i64 g] 109)) := by
  obtain ⟨i0, hi, hz0, hz1, hz2⟩ := info_parts info_arc
  refine wpList_append_own_at _ hgd s x 69 ho B 109 i0 _ 3 24 Try.underlying69 hi hz0 hz1 hz2 rfl (by decide) v l.length _ hs (hown.alloc _) ⟨wr.heap.size, 0, none⟩ 1 1 [.int .i64 f, .int .i64 t, .int .i64 g] hx rfl ?_ ?_ ?_ ?_ ?_ ?_
  · intro j u hj
    rw [addr_add, World.cell?_alloc_at _ _ _ _ rfl]
    match j, hj with
    | 0, hj => simpa using hj
    | 1, hj => simpa using hj
    | 2, hj => simpa using hj
  · intro u hu
    simp only [List.mem_cons, List.not_mem_nil, or_false] at hu
    rcases hu with rfl | rfl | rfl <;> rfl
  · unfold maxLen; omega
  · omega
  · simp; omega
  · intro v' w' h1 h2 _ h3
    exact h v' w' h1 h2 h3

theorem row_none {n : NetL} {most k : Nat} {s : SpaceL} {t : Nat} (h : rowTo n most k s t = none) : ∀ j, rowTo n most k s (t + j) = none := by
  intro j
  induction j with
  | zero => exact h
  | succ j ih => rw [← Nat.add_assoc, rowTo, ih]; rfl
theorem graph_none {n : NetL} {m : List Int} {most k : Nat} (h : graphTo n m most k = none) : ∀ j, graphTo n m most (k + j) = none := by
  intro j
  induction j with
  | zero => exact h
  | succ j ih => rw [← Nat.add_assoc, graphTo, ih]; rfl

/-- What the search among the first j marks has come to. -/
def SeekTo (ms : List (List Int)) (x : List Int) (j : Nat) (z : Int) : Prop := (z = -1 ∧ ∀ i, i < j → markAt ms i ≠ x) ∨ ∃ i, i < j ∧ z = i ∧ markAt ms i = x
theorem seek_done {ms : List (List Int)} {x : List Int} {z : Int} (hn : ms.Nodup) (h : SeekTo ms x ms.length z) : (z = -1 ∧ findM ms x = none) ∨ ∃ i : Nat, i < ms.length ∧ z = i ∧ findM ms x = some i := by
  rcases h with ⟨e, h⟩ | ⟨i, hi, e, h⟩
  · left
    refine ⟨e, ?_⟩
    cases hf : findM ms x with
    | none => rfl
    | some g => obtain ⟨h1, h2⟩ := findM_some hf; exact absurd h2 (h g h1)
  · right
    exact ⟨i, hi, e, by rw [← h]; exact findM_at hn hi⟩
theorem seek_yes {ms : List (List Int)} {x : List Int} {j : Nat} (h : markAt ms j = x) : SeekTo ms x (j + 1) j := .inr ⟨j, by omega, rfl, h⟩
theorem seek_no {ms : List (List Int)} {x : List Int} {j : Nat} {z : Int} (h : SeekTo ms x j z) (hn : markAt ms j ≠ x) : SeekTo ms x (j + 1) z := by
  rcases h with ⟨e, h⟩ | ⟨i, hi, e, h⟩
  · exact .inl ⟨e, fun i hi => by
      by_cases q : i = j
      · subst q; exact hn
      · exact h i (by omega)⟩
  · exact .inr ⟨i, by omega, e, h⟩

/-- What was made behind it hangs on none of its blocks. -/
theorem SpaceAt.fresh {x y B : Nat} {W wr w' : World} {s : SpaceL} {mv av : Value} {us : List Value} (h : SpaceAt x y B W wr s mv av us) {R : World → Prop} (hR : On (fun k => wr.heap.size ≤ k) w' R) :
    On (fun k => k ≠ x ∧ k ≠ y ∧ mv.ownBlock ≠ some k ∧ av.ownBlock ≠ some k) w' R := by
  have h1 := h.hlt
  have h2 := h.hx
  have h3 := h.hy
  refine hR.weaken fun k _ hk => ⟨by omega, by omega, fun e => ?_, fun e => ?_⟩
  · have := ownsRow_lt h.rowM e; omega
  · have := ownsRow_lt h.rowA e; omega

theorem tryT_arcs {n : NetL} {most k t : Nat} {s s' : SpaceL} (e : tryT n most k s t = some s') : s'.arcs.length ≤ s.arcs.length + 1 := by
  unfold tryT at e
  split at e
  · injection e with e; subst e; omega
  · split at e
    · split at e
      · injection e with e; subst e; simp
      · split at e
        · cases e
        · injection e with e; subst e; simp
    · cases e
theorem rowTo_arcs {n : NetL} {most k : Nat} {s : SpaceL} : ∀ (t : Nat) {s' : SpaceL}, rowTo n most k s t = some s' → s'.arcs.length ≤ s.arcs.length + t := by
  intro t
  induction t with
  | zero => intro s' e; injection e with e; subst e; omega
  | succ t ih =>
    intro s' e
    simp only [rowTo, Option.bind_eq_some_iff] at e
    obtain ⟨s1, e1, e2⟩ := e
    have := ih e1
    have := tryT_arcs e2
    omega
theorem graphTo_arcs {n : NetL} {m : List Int} {most : Nat} (hT : n.trans.length ≤ 24) : ∀ (k : Nat) {s : SpaceL}, graphTo n m most k = some s → s.arcs.length ≤ k * 24 := by
  intro k
  induction k with
  | zero => intro s e; injection e with e; subst e; simp
  | succ k ih =>
    intro s e
    simp only [graphTo, Option.bind_eq_some_iff] at e
    obtain ⟨s1, e1, e2⟩ := e
    have h1 := ih e1
    by_cases hk : k < s1.marks.length
    · rw [if_pos hk] at e2
      have := rowTo_arcs _ e2
      omega
    · rw [if_neg hk] at e2
      injection e2 with e2
      subst e2
      omega
theorem fits_trans {n : NetL} {m : List Int} (h : fitsL n m = true) : n.trans.length ≤ 24 := by
  have h1 := (fits_net h).1
  simp only [netOk, headOk, Bool.and_eq_true, decide_eq_true_eq] at h1
  exact h1.1.2

/-- One that fails fails all. -/
theorem graph_fails {n : NetL} {m : List Int} {M k t : Nat} {s s' : SpaceL} (hg : graphTo n m M k = some s) (hk : k < s.marks.length) (hkM : k < M) (hr : rowTo n M k s t = some s') (ht : t < n.trans.length) (hn : tryT n M k s' t = none) : graphTo n m M M = none := by
  have h1 : rowTo n M k s (t + 1) = none := by rw [rowTo, hr]; exact hn
  have h2 := row_none h1 (n.trans.length - (t + 1))
  rw [show t + 1 + (n.trans.length - (t + 1)) = n.trans.length by omega] at h2
  have h3 : graphTo n m M (k + 1) = none := by rw [graphTo, hg]; simp only [Option.bind_some, if_pos hk]; exact h2
  have h4 := graph_none h3 (M - (k + 1))
  rw [show k + 1 + (M - (k + 1)) = M by omega] at h4
  exact h4
theorem tryT_skip {n : NetL} {M k t : Nat} {s : SpaceL} {z : List Int} (h : fireL n (markAt s.marks k) t = (z, 3)) : tryT n M k s t = some s := by
  unfold tryT; rw [h]; rfl
theorem tryT_full {n : NetL} {M k t : Nat} {s : SpaceL} {z : List Int} {cd : Int} (h : fireL n (markAt s.marks k) t = (z, cd)) (h3 : cd ≠ 3) (h0 : cd ≠ 0) : tryT n M k s t = none := by
  unfold tryT; rw [h]; simp [h3, h0]
theorem tryT_old {n : NetL} {M k t g : Nat} {s : SpaceL} {z : List Int} (h : fireL n (markAt s.marks k) t = (z, 0)) (hf : findM s.marks z = some g) : tryT n M k s t = some ⟨s.marks, s.arcs ++ [⟨k, t, g⟩]⟩ := by
  unfold tryT; rw [h]; simp [hf]
theorem tryT_most {n : NetL} {M k t : Nat} {s : SpaceL} {z : List Int} (h : fireL n (markAt s.marks k) t = (z, 0)) (hf : findM s.marks z = none) (hl : s.marks.length = M) : tryT n M k s t = none := by
  unfold tryT; rw [h]; simp [hf, hl]
theorem tryT_new {n : NetL} {M k t : Nat} {s : SpaceL} {z : List Int} (h : fireL n (markAt s.marks k) t = (z, 0)) (hf : findM s.marks z = none) (hl : s.marks.length ≠ M) : tryT n M k s t = some ⟨s.marks ++ [z], s.arcs ++ [⟨k, t, s.marks.length⟩]⟩ := by
  unfold tryT; rw [h]; simp [hf, hl]
theorem row_step {n : NetL} {M k t : Nat} {s s' s2 : SpaceL} (hr : rowTo n M k s t = some s') (h : tryT n M k s' t = some s2) : rowTo n M k s (t + 1) = some s2 := by
  rw [rowTo, hr]; exact h

theorem SpaceAt.afterM {x y B : Nat} {W wr W' wC : World} {s : SpaceL} {mv av : Value} {us : List Value} (h : SpaceAt x y B W wr s mv av us) (hb : Below wr.heap.size wr W') (hg : W'.grownBy wC mv.ownBlock) :
    wC.cell? ⟨x, 0, none⟩ = some mv ∧ wC.frozen? ⟨x, 0, none⟩ = false := by
  have g := h.to hb
  have hc : wC.heap[x]? = W'.heap[x]? := hg.block x g.hlt (fun e => g.apM e.symm)
  exact ⟨(World.cell?_of_block (a := ⟨x, 0, none⟩) hc).trans g.c0, (World.frozen?_of_block (a := ⟨x, 0, none⟩) hc).trans g.f0⟩
theorem SpaceAt.afterA {x y B : Nat} {W wr W' wC : World} {s : SpaceL} {mv av : Value} {us : List Value} (h : SpaceAt x y B W wr s mv av us) (hb : Below wr.heap.size wr W') (hg : W'.grownBy wC av.ownBlock) :
    wC.cell? ⟨x, 1, none⟩ = some av ∧ wC.frozen? ⟨x, 1, none⟩ = false := by
  have g := h.to hb
  have hc : wC.heap[x]? = W'.heap[x]? := hg.block x g.hlt (fun e => g.apA e.symm)
  exact ⟨(World.cell?_of_block (a := ⟨x, 1, none⟩) hc).trans g.c1, (World.frozen?_of_block (a := ⟨x, 1, none⟩) hc).trans g.f1⟩

end Go.Proofs.Ytfgimobmaahmmaa

/- Plain words for nets with a beginning and an end. -/
namespace Go.Proofs.Ytfgimobmaahmmaa
set_option linter.unusedVariables false
set_option maxRecDepth 4000

/-- One token, at one place. -/
def startL (P i : Int) : List Int := mapTo (min P 16).toNat fun p => if (p : Int) = i then 1 else 0

theorem start_length (P i : Int) : (startL P i).length = (min P 16).toNat := mapTo_length _ _

theorem start_at (P i : Int) (p : Nat) (hp : p < (min P 16).toNat) : nth (startL P i) p = if (p : Int) = i then 1 else 0 := mapTo_nth _ _ _ hp

theorem start_bounds (P i : Int) (p : Nat) : 0 ≤ nth (startL P i) p ∧ nth (startL P i) p ≤ 1 := by
  by_cases hp : p < (min P 16).toNat
  · rw [start_at P i p hp]
    split <;> omega
  · rw [nth_past _ _ (by rw [start_length]; omega)]; omega

theorem start_right (P i : Int) : rightL (startL P i) = true := (rightL_iff _).2 fun j => by have := start_bounds P i j; omega

/-- Which places are behind a place. -/
def WayP (n : NetL) (f p : Nat) : Prop := ∀ Q : Nat → Prop, Q f → (∀ k a b, k < n.trans.length → Q a → nth (tranAt n.trans k).pre a ≠ 0 → nth (tranAt n.trans k).post b ≠ 0 → Q b) → Q p
/-- Which transitions are. -/
def WayT (n : NetL) (f k : Nat) : Prop := ∃ p, WayP n f p ∧ nth (tranAt n.trans k).pre p ≠ 0

theorem WayP.here (n : NetL) (f : Nat) : WayP n f f := fun Q h _ => h
theorem WayP.step {n : NetL} {f k a b : Nat} (h : WayP n f a) (hk : k < n.trans.length) (h1 : nth (tranAt n.trans k).pre a ≠ 0) (h2 : nth (tranAt n.trans k).post b ≠ 0) : WayP n f b :=
  fun Q q1 q2 => q2 k a b hk (h Q q1 q2) h1 h2

structure ShapeOk (n : NetL) (i o : Int) : Prop where
  ok : netOk n = true
  ne : i ≠ o
  i0 : 0 ≤ i
  i1 : i < n.places
  o0 : 0 ≤ o
  o1 : o < n.places
  p1 : ∀ p : Nat, (p : Int) < n.places → WayP n i.toNat p
  p2 : ∀ p : Nat, (p : Int) < n.places → WayP (turnL n) o.toNat p
  t1 : ∀ k, k < n.trans.length → WayT n i.toNat k
  t2 : ∀ k, k < n.trans.length → WayT (turnL n) o.toNat k
  put : ∀ k, k < n.trans.length → nth (tranAt n.trans k).post i.toNat = 0
  take : ∀ k, k < n.trans.length → nth (tranAt n.trans k).pre o.toNat = 0

/-- What is wrong. -/
structure Judged (n : NetL) (i o e : Int) : Prop where
  bad : netOk n = false → e = 2
  form : netOk n = true → ¬ ShapeOk n i o → e = 1
  right : ShapeOk n i o → e = 0

theorem Judged.unique {n : NetL} {i o e f : Int} (h : Judged n i o e) (k : Judged n i o f) : e = f := by
  cases hn : netOk n with
  | false => rw [h.bad hn, k.bad hn]
  | true =>
    by_cases hs : ShapeOk n i o
    · rw [h.right hs, k.right hs]
    · rw [h.form hn hs, k.form hn hs]

theorem Judged.of_bad {n : NetL} {i o : Int} (h : netOk n = false) : Judged n i o 2 := ⟨fun _ => rfl, fun q => (by rw [h] at q; cases q), fun q => (by have := q.ok; rw [h] at this; cases this)⟩
theorem Judged.of_form {n : NetL} {i o : Int} (h : netOk n = true) (hs : ¬ ShapeOk n i o) : Judged n i o 1 := ⟨fun q => (by rw [h] at q; cases q), fun _ _ => rfl, fun q => absurd q hs⟩
theorem Judged.of_right {n : NetL} {i o : Int} (hs : ShapeOk n i o) : Judged n i o 0 := ⟨fun q => (by have := hs.ok; rw [q] at this; cases this), fun _ q => absurd hs q, fun _ => rfl⟩
theorem Judged.zero {n : NetL} {i o : Int} (h : Judged n i o 0) : ShapeOk n i o := by
  cases hn : netOk n with
  | false => have := h.bad hn; omega
  | true =>
    by_cases hs : ShapeOk n i o
    · exact hs
    · have := h.form hn hs; omega
theorem Judged.not_zero {n : NetL} {i o e : Int} (h : Judged n i o e) (he : e ≠ 0) : ¬ ShapeOk n i o := fun hs => he (h.right hs)

theorem turn_back (n : NetL) : turnL (turnL n) = n := by
  unfold turnL
  simp only [List.map_map]
  cases n with
  | mk P ts =>
    congr 1
    have : (turnT ∘ turnT) = id := by funext t; exact turn_turn t
    rw [this, List.map_id]

theorem turn_ok_iff (n : NetL) : netOk (turnL n) = netOk n := by
  cases h : netOk n with
  | true => exact turn_ok n h
  | false =>
    cases h2 : netOk (turnL n) with
    | false => rfl
    | true =>
      have h3 := turn_ok _ h2
      rw [turn_back, h] at h3
      cases h3

theorem turn_count (n : NetL) : (turnL n).trans.length = n.trans.length := by simp [turnL]

theorem turn_tran (n : NetL) {k : Nat} (hk : k < n.trans.length) : tranAt (turnL n).trans k = turnT (tranAt n.trans k) := turn_at _ _ hk

/-- The other way round it has one, too. -/
theorem ShapeOk.turned {n : NetL} {i o : Int} (h : ShapeOk n i o) : ShapeOk (turnL n) o i where
  ok := by rw [turn_ok_iff]; exact h.ok
  ne := fun e => h.ne e.symm
  i0 := h.o0
  i1 := h.o1
  o0 := h.i0
  o1 := h.i1
  p1 := h.p2
  p2 := by rw [turn_back]; exact h.p1
  t1 := by rw [turn_count]; exact h.t2
  t2 := by rw [turn_back, turn_count]; exact h.t1
  put := by
    rw [turn_count]
    intro k hk
    rw [turn_tran n hk]
    exact h.take k hk
  take := by
    rw [turn_count]
    intro k hk
    rw [turn_tran n hk]
    exact h.put k hk

theorem Judged.turned {n : NetL} {i o e : Int} (h : Judged n i o e) : Judged (turnL n) o i e where
  bad := by rw [turn_ok_iff]; exact h.bad
  form := by
    rw [turn_ok_iff]
    exact fun q hs => h.form q fun k => hs k.turned
  right := fun hs => h.right (by have := hs.turned; rwa [turn_back] at this)

/-- With one more transition, from the end to the beginning. -/
def closeL (n : NetL) (i o : Int) : NetL := ⟨n.places, n.trans ++ [⟨0, startL n.places o, startL n.places i⟩]⟩

/-- What Close answers. -/
structure Closed (n : NetL) (i o : Int) (c : NetL) (e : Int) : Prop where
  right : ShapeOk n i o → n.trans.length < 24 → e = 0 ∧ c = closeL n i o
  full : ShapeOk n i o → ¬ n.trans.length < 24 → e = 4 ∧ c = ⟨0, []⟩
  bad : ¬ ShapeOk n i o → Judged n i o e ∧ c = ⟨0, []⟩

theorem Closed.unique {n c d : NetL} {i o e f : Int} (h : Closed n i o c e) (k : Closed n i o d f) : c = d ∧ e = f := by
  by_cases hs : ShapeOk n i o
  · by_cases hl : n.trans.length < 24
    · obtain ⟨h1, h2⟩ := h.right hs hl
      obtain ⟨k1, k2⟩ := k.right hs hl
      exact ⟨by rw [h2, k2], by rw [h1, k1]⟩
    · obtain ⟨h1, h2⟩ := h.full hs hl
      obtain ⟨k1, k2⟩ := k.full hs hl
      exact ⟨by rw [h2, k2], by rw [h1, k1]⟩
  · obtain ⟨h1, h2⟩ := h.bad hs
    obtain ⟨k1, k2⟩ := k.bad hs
    exact ⟨by rw [h2, k2], h1.unique k1⟩

theorem Closed.zero {n c : NetL} {i o : Int} (h : Closed n i o c 0) : ShapeOk n i o ∧ n.trans.length < 24 ∧ c = closeL n i o := by
  by_cases hs : ShapeOk n i o
  · by_cases hl : n.trans.length < 24
    · exact ⟨hs, hl, (h.right hs hl).2⟩
    · have := (h.full hs hl).1; omega
  · obtain ⟨h1, h2⟩ := h.bad hs
    exact absurd h1.zero hs

theorem Closed.none {n c : NetL} {i o e : Int} (h : Closed n i o c e) (he : e ≠ 0) : c = ⟨0, []⟩ := by
  by_cases hs : ShapeOk n i o
  · by_cases hl : n.trans.length < 24
    · exact absurd (h.right hs hl).1 he
    · exact (h.full hs hl).2
  · exact (h.bad hs).2

theorem head_of {n : NetL} (h : netOk n = true) : 0 ≤ n.places ∧ n.places ≤ 16 ∧ n.trans.length ≤ 24 := by
  simp only [netOk, headOk, Bool.and_eq_true, decide_eq_true_eq] at h
  exact ⟨h.1.1.1, h.1.1.2, h.1.2⟩

theorem start_len {n : NetL} (h : netOk n = true) (i : Int) : ((startL n.places i).length : Int) = n.places := by
  obtain ⟨h0, h1, _⟩ := head_of h
  rw [start_length]; omega

theorem start_fits {n : NetL} (h : netOk n = true) (i : Int) : fitsL n (startL n.places i) = true := fits_mk h (start_len h i) (start_right _ _)

theorem mem_nth {xs : List Int} {x : Int} (h : x ∈ xs) : ∃ j, j < xs.length ∧ nth xs j = x := by
  obtain ⟨j, hj, e⟩ := List.getElem_of_mem h
  exact ⟨j, hj, by simp [nth, List.getD, List.getElem?_eq_getElem hj, e]⟩

theorem start_tran {n : NetL} (h : netOk n = true) (i o : Int) : tranOk n.places ⟨0, startL n.places o, startL n.places i⟩ = true := by
  have l1 := start_len h o
  have l2 := start_len h i
  simp only [tranOk, tranHead, Bool.and_eq_true, beq_iff_eq, decide_eq_true_eq, List.all_eq_true, List.mem_append]
  refine ⟨⟨⟨⟨by omega, by omega⟩, l1⟩, l2⟩, ?_⟩
  rintro x (hx | hx)
  all_goals
    obtain ⟨j, _, rfl⟩ := mem_nth hx
    simp only [weightOk, Bool.and_eq_true, decide_eq_true_eq]
  · have := start_bounds n.places o j; omega
  · have := start_bounds n.places i j; omega

theorem close_ok {n : NetL} (h : netOk n = true) (hl : n.trans.length < 24) (i o : Int) : netOk (closeL n i o) = true := by
  obtain ⟨h0, h1, _⟩ := head_of h
  have hs := start_tran h i o
  simp only [netOk, Bool.and_eq_true] at h
  simp only [netOk, headOk, closeL, Bool.and_eq_true, List.length_append, List.length_cons, List.length_nil, List.all_append, List.all_cons, List.all_nil]
  exact ⟨⟨⟨decide_eq_true h0, decide_eq_true h1⟩, decide_eq_true (by omega)⟩, h.2, hs, trivial⟩

theorem close_count (n : NetL) (i o : Int) : (closeL n i o).trans.length = n.trans.length + 1 := by simp [closeL]

theorem close_at (n : NetL) (i o : Int) {k : Nat} (hk : k < n.trans.length) : tranAt (closeL n i o).trans k = tranAt n.trans k := by
  unfold closeL tranAt List.getD
  simp [List.getElem?_append, hk]

theorem close_last (n : NetL) (i o : Int) : tranAt (closeL n i o).trans n.trans.length = ⟨0, startL n.places o, startL n.places i⟩ := by
  unfold closeL tranAt List.getD
  simp

theorem close_fits {n : NetL} (h : netOk n = true) (hl : n.trans.length < 24) (i o : Int) (m : List Int) : fitsL (closeL n i o) m = fitsL n m := by
  unfold fitsL
  rw [close_ok h hl, h]
  rfl

theorem close_fire {n : NetL} (h : netOk n = true) (hl : n.trans.length < 24) (i o : Int) (m : List Int) {t : Int} (ht : t ≠ n.trans.length) : fireL (closeL n i o) m t = fireL n m t := by
  unfold fireL
  rw [close_fits h hl, close_count]
  have e : decide (t < ((n.trans.length + 1 : Nat) : Int)) = decide (t < (n.trans.length : Int)) := by rw [decide_eq_decide]; omega
  rw [e]
  by_cases q : 0 ≤ t ∧ t < n.trans.length
  · rw [close_at n i o (show t.toNat < n.trans.length by omega)]
  · have f : (decide (0 ≤ t) && decide (t < (n.trans.length : Int))) = false := by
      rw [Bool.and_eq_false_iff, decide_eq_false_iff_not, decide_eq_false_iff_not]
      omega
    rw [f]
    simp

theorem close_run {n : NetL} (h : netOk n = true) (hl : n.trans.length < 24) (i o : Int) (seq : List Int) : ∀ (m : List Int), (n.trans.length : Int) ∉ seq → runL (closeL n i o) m seq = runL n m seq := by
  induction seq with
  | nil => intro m _; unfold runL; rw [close_fits h hl]
  | cons t ts ih =>
    intro m hm
    simp only [List.mem_cons, not_or] at hm
    rw [runL_cons, runL_cons, close_fits h hl, close_fire h hl i o m (fun e => hm.1 e.symm), ih _ hm.2]

/-- From the end the beginning is come to by one firing. -/
theorem close_round {n : NetL} (h : netOk n = true) (hl : n.trans.length < 24) (i o : Int) : fireL (closeL n i o) (startL n.places o) (n.trans.length : Nat) = (startL n.places i, 0) := by
  have hk : n.trans.length < (closeL n i o).trans.length := by rw [close_count]; omega
  have e : addL (subL (startL n.places o) (startL n.places o)) (startL n.places i) = startL n.places i := by
    refine eq_of_at ?_ fun j => ?_
    · rw [add_length, sub_length]
      simp only [start_length]
      omega
    · rw [add_at, sub_at]; omega
  have hf : fitsL (closeL n i o) (startL n.places o) = true := by rw [close_fits h hl]; exact start_fits h o
  have := fire_mk hk hf (by rw [close_last]; exact covers_self _) (by rw [close_last]; simp only; rw [e]; exact start_right _ _)
  rw [this, close_last]
  simp only
  rw [e]

/-- What was closed has no beginning. -/
theorem close_form {n : NetL} {i o : Int} (hs : ShapeOk n i o) (hl : n.trans.length < 24) : ¬ ShapeOk (closeL n i o) i o := by
  intro q
  have h1 := q.put n.trans.length (by rw [close_count]; omega)
  rw [close_last] at h1
  simp only at h1
  obtain ⟨h0, h16, _⟩ := head_of hs.ok
  have := hs.i0
  have := hs.i1
  rw [start_at n.places i i.toNat (by omega), if_pos (by omega)] at h1
  omega

theorem close_same (n : NetL) (i o : Int) : (closeL n i o).trans.take n.trans.length = n.trans := by simp [closeL]

/-! ### at the end nothing goes on -/
theorem end_none {n : NetL} {i o : Int} (hs : ShapeOk n i o) : canTo n (startL n.places o) n.trans.length = [] := by
  rw [List.eq_nil_iff_forall_not_mem]
  intro t ht
  obtain ⟨k, rfl, hk, hc⟩ := (can_mem n _ _ _).1 ht
  obtain ⟨p, _, hp⟩ := hs.t1 k hk
  have hcp := (coversL_iff _ _).1 hc p
  have hpo : (p : Int) ≠ o := fun e => hp (by have := hs.take k hk; rw [← e, Int.toNat_natCast] at this; exact this)
  have hb := (okTok_nth (tran_right (net_tran hs.ok hk)).1 p).1
  have : nth (startL n.places o) p = 0 := by
    by_cases q : p < (min n.places 16).toNat
    · rw [start_at _ _ _ q, if_neg hpo]
    · exact nth_past _ _ (by rw [start_length]; omega)
  omega

/-- Nothing comes to the beginning again. -/
theorem run_low {n : NetL} {i o : Int} (hs : ShapeOk n i o) (seq : List Int) : ∀ {m x : List Int}, runL n m seq = (x, 0) → nth m i.toNat = 0 → nth x i.toNat = 0 := by
  induction seq with
  | nil => intro m x h h0; obtain ⟨_, rfl⟩ := run_nil.1 h; exact h0
  | cons t ts ih =>
    intro m x h h0
    obtain ⟨y, h1, h2⟩ := run_cons.1 h
    refine ih h2 ?_
    obtain ⟨k, rfl, hk, hf, hc, hr, rfl⟩ := fire_ok h1
    have h3 := (coversL_iff _ _).1 hc i.toNat
    have h4 := (okTok_nth (tran_right (net_tran hs.ok hk)).1 i.toNat).1
    rw [add_at, sub_at, hs.put k hk]
    omega

theorem run_gone {n : NetL} {i o : Int} (hs : ShapeOk n i o) {seq x : List Int} (h : runL n (startL n.places i) seq = (x, 0)) (h0 : seq ≠ []) : nth x i.toNat = 0 := by
  cases seq with
  | nil => exact absurd rfl h0
  | cons t ts =>
    obtain ⟨y, h1, h2⟩ := run_cons.1 h
    refine run_low hs ts h2 ?_
    obtain ⟨k, rfl, hk, hf, hc, hr, rfl⟩ := fire_ok h1
    obtain ⟨p, _, hp⟩ := hs.t1 k hk
    have hcp := (coversL_iff _ _).1 hc p
    have hb := (okTok_nth (tran_right (net_tran hs.ok hk)).1 p).1
    have hsb := start_bounds n.places i p
    have hpi : (p : Int) = i := by
      by_cases q : p < (min n.places 16).toNat
      · rw [start_at _ _ _ q] at hcp
        by_cases e : (p : Int) = i
        · exact e
        · rw [if_neg e] at hcp; omega
      · rw [nth_past (startL n.places i) p (by rw [start_length]; omega)] at hcp; omega
    have : i.toNat = p := by omega
    rw [add_at, sub_at, hs.put k hk, this]
    omega

end Go.Proofs.Ytfgimobmaahmmaa

/- Plain words for what can always be done again. -/
namespace Go.Proofs.Ytfgimobmaahmmaa
set_option linter.unusedVariables false
set_option maxRecDepth 4000

/-- Marks, and arcs between whatever numbers. -/
structure SpaceZ where
  marks : List (List Int)
  arcs : List (Int × Int × Int)

def rightS (s : SpaceZ) : Bool := s.arcs.all fun a => decide (0 ≤ a.1) && decide (a.1 < s.marks.length) && decide (0 ≤ a.2.2) && decide (a.2.2 < s.marks.length)
def Comes (s : SpaceZ) (k j : Int) : Prop := ∀ P : Int → Prop, P k → (∀ a : Int × Int × Int, P a.1 → a ∈ s.arcs → P a.2.2) → P j
theorem Comes.here {s : SpaceZ} (k : Int) : Comes s k k := fun _ h _ => h
theorem Comes.go {s : SpaceZ} {k : Int} {a : Int × Int × Int} (h : Comes s k a.1) (ha : a ∈ s.arcs) : Comes s k a.2.2 := fun P h0 h1 => h1 a (h P h0 h1) ha
theorem Comes.ind {s : SpaceZ} {k : Int} {motive : (j : Int) → Comes s k j → Prop} (here : motive k (Comes.here k)) (go : ∀ {a : Int × Int × Int} (h : Comes s k a.1) (ha : a ∈ s.arcs), motive a.1 h → motive a.2.2 (Comes.go h ha)) {j : Int} (h : Comes s k j) : motive j h := by
  obtain ⟨h', q⟩ := h (fun j => ∃ h : Comes s k j, motive j h) ⟨Comes.here k, here⟩ (fun a ⟨hx, qx⟩ ha => ⟨Comes.go hx ha, go hx ha qx⟩)
  exact q
def deadL (s : SpaceZ) (T : Int) : List Int := (rangeL (min T 24).toNat).filter fun t => s.arcs.all fun a => a.2.1 != t
def stuckL (s : SpaceZ) : List Int := (rangeL s.marks.length).filter fun k => s.arcs.all fun a => a.1 != k
def boundM (n : Int) (m : List Int) : Int := if rightL m then m.foldl max n else n
def boundL (s : SpaceZ) : Int := s.marks.foldl boundM 0
structure IsLive (s : SpaceZ) (T : Int) (xs : List Int) : Prop where
  up : xs.Pairwise (· < ·)
  mem : ∀ t, t ∈ xs ↔ rightS s = true ∧ 0 ≤ t ∧ t < min T 24 ∧ ∀ k : Int, 0 ≤ k → k < s.marks.length → ∃ a ∈ s.arcs, a.2.1 = t ∧ Comes s k a.1
structure IsHome (s : SpaceZ) (xs : List Int) : Prop where
  up : xs.Pairwise (· < ·)
  mem : ∀ k, k ∈ xs ↔ rightS s = true ∧ 0 ≤ k ∧ k < s.marks.length ∧ ∀ i : Int, 0 ≤ i → i < s.marks.length → Comes s i k

theorem rightS_iff {s : SpaceZ} : rightS s = true ↔ ∀ a ∈ s.arcs, 0 ≤ a.1 ∧ a.1 < s.marks.length ∧ 0 ≤ a.2.2 ∧ a.2.2 < s.marks.length := by
  unfold rightS
  simp only [List.all_eq_true, Bool.and_eq_true, decide_eq_true_eq, and_assoc]
theorem mem_dead {s : SpaceZ} {T t : Int} : t ∈ deadL s T ↔ 0 ≤ t ∧ t < min T 24 ∧ ∀ a ∈ s.arcs, a.2.1 ≠ t := by
  unfold deadL
  rw [List.mem_filter, mem_range]
  simp only [List.all_eq_true, bne_iff_ne]
  constructor
  · rintro ⟨h1, h2⟩; exact ⟨by omega, by omega, h2⟩
  · rintro ⟨h1, h2, h3⟩; exact ⟨by omega, h3⟩
theorem mem_stuck {s : SpaceZ} {k : Int} : k ∈ stuckL s ↔ 0 ≤ k ∧ k < s.marks.length ∧ ∀ a ∈ s.arcs, a.1 ≠ k := by
  unfold stuckL
  rw [List.mem_filter, mem_range]
  simp only [List.all_eq_true, bne_iff_ne, and_assoc]
theorem dead_up (s : SpaceZ) (T : Int) : (deadL s T).Pairwise (· < ·) := (range_sorted _).sublist List.filter_sublist
theorem stuck_up (s : SpaceZ) : (stuckL s).Pairwise (· < ·) := (range_sorted _).sublist List.filter_sublist

/-- Who is stuck goes nowhere. -/
theorem stuck_only {s : SpaceZ} {k j : Int} (h : k ∈ stuckL s) (hc : Comes s k j) : j = k := by
  induction hc using Comes.ind with
  | here => rfl
  | go h1 h2 ih => exact absurd ih ((mem_stuck.1 h).2.2 _ h2)

theorem up_one {xs : List Int} {k : Int} (hx : xs.Pairwise (· < ·)) (h : ∀ t, t ∈ xs ↔ t = k) : xs = [k] :=
  up_unique hx (List.pairwise_singleton _ _) fun t => by rw [h]; simp
theorem up_none {xs : List Int} (h : ∀ t, ¬ t ∈ xs) : xs = [] := List.eq_nil_iff_forall_not_mem.2 h

theorem stuck_live {s : SpaceZ} {T k : Int} {xs : List Int} (hk : k ∈ stuckL s) (h : IsLive s T xs) : xs = [] := by
  refine up_none fun t ht => ?_
  obtain ⟨_, _, _, hall⟩ := (h.mem t).1 ht
  obtain ⟨h1, h2, h3⟩ := mem_stuck.1 hk
  obtain ⟨a, ha, _, hc⟩ := hall k h1 h2
  exact h3 a ha (stuck_only hk hc)
theorem stuck_home {s : SpaceZ} {k : Int} {hs : List Int} (hk : k ∈ stuckL s) (h : IsHome s hs) (hh : k ∈ hs) : hs = [k] ∧ stuckL s = [k] := by
  obtain ⟨_, k1, k2, hall⟩ := (h.mem k).1 hh
  constructor
  · refine up_one h.up fun t => ⟨fun ht => ?_, fun e => by rw [e]; exact hh⟩
    obtain ⟨_, _, _, ht4⟩ := (h.mem t).1 ht
    exact stuck_only hk (ht4 k k1 k2)
  · refine up_one (stuck_up s) fun t => ⟨fun ht => ?_, fun e => by rw [e]; exact hk⟩
    obtain ⟨t1, t2, _⟩ := mem_stuck.1 ht
    exact (stuck_only ht (hall t t1 t2)).symm
theorem wrong_live {s : SpaceZ} {T : Int} {xs : List Int} (hr : rightS s = false) (h : IsLive s T xs) : xs = [] :=
  up_none fun t ht => by have := ((h.mem t).1 ht).1; rw [hr] at this; cases this
theorem wrong_home {s : SpaceZ} {xs : List Int} (hr : rightS s = false) (h : IsHome s xs) : xs = [] :=
  up_none fun t ht => by have := ((h.mem t).1 ht).1; rw [hr] at this; cases this

/-! ### spaces that are found -/
def toZ (s : SpaceL) : SpaceZ := ⟨s.marks, s.arcs.map arcZ⟩

theorem mem_arcZ {s : SpaceL} {a : Int × Int × Int} : a ∈ (toZ s).arcs ↔ ∃ b ∈ s.arcs, a = arcZ b := by
  unfold toZ
  simp only [List.mem_map]
  constructor
  · rintro ⟨b, h1, h2⟩; exact ⟨b, h1, h2.symm⟩
  · rintro ⟨b, h1, h2⟩; exact ⟨b, h1, h2.symm⟩

theorem Whole.sound {n : NetL} {m : List Int} {s : SpaceL} (h : Whole n m s) : ∀ a ∈ s.arcs, a.frm < s.marks.length ∧ a.dst < s.marks.length ∧ a.tran < n.trans.length ∧ fireL n (markAt s.marks a.frm) a.tran = (markAt s.marks a.dst, 0) := by
  obtain ⟨most, k, hF, hk⟩ := h
  intro a ha
  obtain ⟨h1, h2, h3, _, h5⟩ := hF.sound a ha
  exact ⟨h1, h2, h3, h5⟩
theorem Whole.right {n : NetL} {m : List Int} {s : SpaceL} (h : Whole n m s) : rightS (toZ s) = true := by
  refine rightS_iff.2 fun a ha => ?_
  obtain ⟨b, hb, rfl⟩ := mem_arcZ.1 ha
  obtain ⟨h1, h2, _⟩ := h.sound b hb
  simp only [arcZ, toZ]
  omega

/-- One comes by arcs just where a run leads. -/
theorem Whole.comes_run {n : NetL} {m : List Int} {s : SpaceL} (h : Whole n m s) {i : Nat} (hi : i < s.marks.length) {y : Int} (hc : Comes (toZ s) i y) :
    ∃ j : Nat, y = j ∧ j < s.marks.length ∧ ∃ seq, runL n (markAt s.marks i) seq = (markAt s.marks j, 0) := by
  have hfit : ∀ g, g < s.marks.length → fitsL n (markAt s.marks g) = true := by obtain ⟨most, k, hF, hk⟩ := h; exact fun g hg => hF.fits _ (markAt_mem hg)
  have key : ∀ {x y : Int}, Comes (toZ s) x y → x = (i : Int) → ∃ j : Nat, y = j ∧ j < s.marks.length ∧ ∃ seq, runL n (markAt s.marks i) seq = (markAt s.marks j, 0) := by
    intro x y hc
    induction hc using Comes.ind with
    | here => intro e; subst e; exact ⟨i, rfl, hi, [], run_nil.2 ⟨hfit i hi, rfl⟩⟩
    | go h1 h2 ih =>
      intro e
      obtain ⟨j, ej, hj, seq, hs⟩ := ih e
      obtain ⟨b, hb, rfl⟩ := mem_arcZ.1 h2
      obtain ⟨b1, b2, b3, b4⟩ := h.sound b hb
      simp only [arcZ] at ej ⊢
      obtain rfl : b.frm = j := by omega
      refine ⟨b.dst, rfl, b2, seq ++ [(b.tran : Int)], ?_⟩
      rw [run_append, hs]
      simp only [BEq.rfl, if_true]
      exact run_cons.2 ⟨_, b4, run_nil.2 ⟨hfit _ b2, rfl⟩⟩
  exact key hc rfl
theorem Whole.run_comes {n : NetL} {m : List Int} {s : SpaceL} (h : Whole n m s) (seq : List Int) : ∀ {i k : Nat} {z : List Int}, i < s.marks.length → Comes (toZ s) k i → runL n (markAt s.marks i) seq = (z, 0) →
    (∃ j : Nat, j < s.marks.length ∧ z = markAt s.marks j ∧ Comes (toZ s) k j) ∧ ∀ t ∈ seq, ∃ a ∈ s.arcs, (a.tran : Int) = t ∧ Comes (toZ s) k a.frm := by
  induction seq with
  | nil =>
    intro i k z hi hc hr
    obtain ⟨_, rfl⟩ := run_nil.1 hr
    exact ⟨⟨i, hi, rfl, hc⟩, by simp⟩
  | cons t ts ih =>
    intro i k z hi hc hr
    obtain ⟨y, h1, h2⟩ := run_cons.1 hr
    rcases h.fire hi t with h3 | ⟨j, g, rfl, hg, hgl, e⟩
    · rw [h1] at h3; simp at h3
    · rw [e] at h1
      injection h1 with h1 _
      subst h1
      have hc2 : Comes (toZ s) k g := Comes.go (a := arcZ ⟨i, j, g⟩) hc (mem_arcZ.2 ⟨_, hg, rfl⟩)
      obtain ⟨q1, q2⟩ := ih hgl hc2 h2
      refine ⟨q1, fun t' ht' => ?_⟩
      rcases List.mem_cons.1 ht' with q | q
      · exact ⟨_, hg, q.symm, hc⟩
      · exact q2 t' q

/-- From each of the marks all marks are found again, where there is room. -/
theorem Whole.again {n : NetL} {m : List Int} {s : SpaceL} (h : Whole n m s) (hl : s.marks.length < 300) {f : Nat} (hf : f < s.marks.length) : ∃ u, graphL n (markAt s.marks f) 300 = (u, 0) := by
  have hfit : fitsL n (markAt s.marks f) = true := by obtain ⟨most, k, hF, hk⟩ := h; exact hF.fits _ (markAt_mem hf)
  have hok := graphOk_300 hfit
  cases hg : graphTo n (markAt s.marks f) 300 300 with
  | some u => exact ⟨u, by rw [graphL, hok]; simp only [if_true, show (300 : Int).toNat = 300 from rfl]; rw [hg]⟩
  | none =>
    exfalso
    obtain ⟨f', j, s', hj, hF, hf', hn⟩ := graph_broke (by omega) hfit _ hg
    have hin : ∀ g, g < s'.marks.length → ∃ g2, g2 < s.marks.length ∧ markAt s'.marks g = markAt s.marks g2 := by
      intro g
      induction g using Nat.strongRecOn with
      | ind g ih =>
        intro hgl
        by_cases e : g = 0
        · subst e; exact ⟨f, hf, hF.first⟩
        · obtain ⟨a, ha, hlt⟩ := hF.par g (by omega) hgl
          obtain ⟨h1, h2⟩ := firstTo_mem ha
          obtain ⟨q1, q2, q3, q4, q5⟩ := hF.sound a h1
          obtain ⟨g2, hg2, e2⟩ := ih a.frm hlt q1
          rw [e2, h2] at q5
          rcases h.fire hg2 a.tran with r | ⟨_, g3, _, _, hg3, e3⟩
          · rw [q5] at r; simp at r
          · rw [q5] at e3; injection e3 with e3 _; exact ⟨g3, hg3, e3⟩
    have hlen : s'.marks.length ≤ s.marks.length := nodup_sub hF.nodup fun x hx => by
      obtain ⟨g, hgl, rfl⟩ := List.getElem_of_mem hx
      obtain ⟨g2, hg2, e2⟩ := hin g hgl
      have e3 : s'.marks[g] = markAt s'.marks g := by simp [markAt, List.getD_eq_getElem?_getD, List.getElem?_eq_getElem hgl]
      rw [e3, e2]
      exact markAt_mem hg2
    obtain ⟨g2, hg2, e2⟩ := hin f' hf'
    rcases h.fire hg2 j with r | ⟨_, g3, _, _, hg3, e3⟩
    · unfold tryT at hn
      rw [e2, r] at hn
      simp at hn
    · unfold tryT at hn
      rw [e2, e3] at hn
      simp only [show ((0 : Int) == 3) = false from rfl, Bool.false_eq_true, if_false, BEq.rfl, if_true] at hn
      split at hn
      · cases hn
      · rw [if_neg (by omega)] at hn
        cases hn

end Go.Proofs.Ytfgimobmaahmmaa

/- Plain words for nets that always come to their end; van der Aalst. -/
namespace Go.Proofs.Ytfgimobmaahmmaa
set_option linter.unusedVariables false
set_option maxRecDepth 4000

structure VerdL where
  kind : Int
  at_ : List Int
  tran : Int

/-- It has the end, and something beside. -/
def ExtraM (E x : List Int) : Prop := coversL x E = true ∧ x ≠ E

/-- What is told of the marks that are found. -/
structure SaysV (n : NetL) (E : List Int) (s : SpaceL) (v : VerdL) : Prop where
  extra : ∀ k, k < s.marks.length → ExtraM E (markAt s.marks k) → (∀ j, j < k → ¬ ExtraM E (markAt s.marks j)) → v = ⟨2, markAt s.marks k, 0⟩
  stuck : (∀ j, j < s.marks.length → ¬ ExtraM E (markAt s.marks j)) → ∀ k, k < s.marks.length → ¬ ReachZ n (markAt s.marks k) E → (∀ j, j < k → ReachZ n (markAt s.marks j) E) → v = ⟨3, markAt s.marks k, 0⟩
  dead : (∀ j, j < s.marks.length → ¬ ExtraM E (markAt s.marks j)) → (∀ j, j < s.marks.length → ReachZ n (markAt s.marks j) E) → ∀ t ts, deadL (toZ s) n.trans.length = t :: ts → v = ⟨4, [], t⟩
  sound : (∀ j, j < s.marks.length → ¬ ExtraM E (markAt s.marks j)) → (∀ j, j < s.marks.length → ReachZ n (markAt s.marks j) E) → deadL (toZ s) n.trans.length = [] → v = ⟨1, [], 0⟩

structure Verd (n : NetL) (i o most : Int) (v : VerdL) (e : Int) : Prop where
  wrong : ¬ ShapeOk n i o → Judged n i o e ∧ v = ⟨0, [], 0⟩
  full : ShapeOk n i o → (graphL n (startL n.places i) most).2 ≠ 0 → e = (graphL n (startL n.places i) most).2 ∧ v = ⟨0, [], 0⟩
  right : ShapeOk n i o → ∀ s, graphL n (startL n.places i) most = (s, 0) → e = 0 ∧ SaysV n (startL n.places o) s v

theorem least_no {Q : Nat → Prop} {N : Nat} (h : ¬ ∀ j, j < N → Q j) : ∃ j, j < N ∧ ¬ Q j ∧ ∀ i, i < j → Q i := by
  induction N with
  | zero => exact absurd (fun j hj => absurd hj (Nat.not_lt_zero _)) h
  | succ N ih =>
    by_cases q : ∀ j, j < N → Q j
    · refine ⟨N, by omega, fun hN => h fun j hj => ?_, q⟩
      by_cases e : j = N
      · subst e; exact hN
      · exact q j (by omega)
    · obtain ⟨j, h1, h2, h3⟩ := ih q
      exact ⟨j, by omega, h2, h3⟩

/-- One of the four is so. -/
theorem SaysV.cases {n : NetL} {E : List Int} {s : SpaceL} {v : VerdL} (h : SaysV n E s v) :
    (∃ k, k < s.marks.length ∧ ExtraM E (markAt s.marks k) ∧ (∀ j, j < k → ¬ ExtraM E (markAt s.marks j)) ∧ v = ⟨2, markAt s.marks k, 0⟩) ∨
    ((∀ j, j < s.marks.length → ¬ ExtraM E (markAt s.marks j)) ∧ ∃ k, k < s.marks.length ∧ ¬ ReachZ n (markAt s.marks k) E ∧ (∀ j, j < k → ReachZ n (markAt s.marks j) E) ∧ v = ⟨3, markAt s.marks k, 0⟩) ∨
    ((∀ j, j < s.marks.length → ¬ ExtraM E (markAt s.marks j)) ∧ (∀ j, j < s.marks.length → ReachZ n (markAt s.marks j) E) ∧ ∃ t ts, deadL (toZ s) n.trans.length = t :: ts ∧ v = ⟨4, [], t⟩) ∨
    ((∀ j, j < s.marks.length → ¬ ExtraM E (markAt s.marks j)) ∧ (∀ j, j < s.marks.length → ReachZ n (markAt s.marks j) E) ∧ deadL (toZ s) n.trans.length = [] ∧ v = ⟨1, [], 0⟩) := by
  by_cases h1 : ∀ j, j < s.marks.length → ¬ ExtraM E (markAt s.marks j)
  · right
    by_cases h2 : ∀ j, j < s.marks.length → ReachZ n (markAt s.marks j) E
    · right
      cases hd : deadL (toZ s) n.trans.length with
      | nil => exact .inr ⟨h1, h2, rfl, h.sound h1 h2 hd⟩
      | cons t ts => exact .inl ⟨h1, h2, t, ts, rfl, h.dead h1 h2 t ts hd⟩
    · obtain ⟨k, q1, q2, q3⟩ := least_no h2
      exact .inl ⟨h1, k, q1, q2, q3, h.stuck h1 k q1 q2 q3⟩
  · left
    obtain ⟨k, q1, q2, q3⟩ := least_no h1
    have q2 := Classical.not_not.1 q2
    exact ⟨k, q1, q2, q3, h.extra k q1 q2 q3⟩

theorem SaysV.unique {n : NetL} {E : List Int} {s : SpaceL} {v u : VerdL} (h : SaysV n E s v) (k : SaysV n E s u) : v = u := by
  rcases h.cases with ⟨j, a1, a2, a3, e⟩ | ⟨a1, j, a2, a3, a4, e⟩ | ⟨a1, a2, t, ts, a3, e⟩ | ⟨a1, a2, a3, e⟩
  · rw [e, k.extra j a1 a2 a3]
  · rw [e, k.stuck a1 j a2 a3 a4]
  · rw [e, k.dead a1 a2 t ts a3]
  · rw [e, k.sound a1 a2 a3]

theorem Verd.unique {n : NetL} {i o most e f : Int} {v u : VerdL} (h : Verd n i o most v e) (k : Verd n i o most u f) : v = u ∧ e = f := by
  by_cases hs : ShapeOk n i o
  · cases hg : graphL n (startL n.places i) most with
    | mk s d =>
      by_cases hd : d = 0
      · subst hd
        obtain ⟨h1, h2⟩ := h.right hs s hg
        obtain ⟨k1, k2⟩ := k.right hs s hg
        exact ⟨h2.unique k2, by rw [h1, k1]⟩
      · obtain ⟨h1, h2⟩ := h.full hs (by rw [hg]; exact hd)
        obtain ⟨k1, k2⟩ := k.full hs (by rw [hg]; exact hd)
        exact ⟨by rw [h2, k2], by rw [h1, k1]⟩
  · obtain ⟨h1, h2⟩ := h.wrong hs
    obtain ⟨k1, k2⟩ := k.wrong hs
    exact ⟨by rw [h2, k2], h1.unique k1⟩

theorem Verd.zero {n : NetL} {i o most : Int} {v : VerdL} (h : Verd n i o most v 0) : ShapeOk n i o ∧ ∃ s, graphL n (startL n.places i) most = (s, 0) ∧ SaysV n (startL n.places o) s v := by
  by_cases hs : ShapeOk n i o
  · cases hg : graphL n (startL n.places i) most with
    | mk s d =>
      by_cases hd : d = 0
      · subst hd; exact ⟨hs, s, rfl, (h.right hs s hg).2⟩
      · have := (h.full hs (by rw [hg]; exact hd)).1
        rw [hg] at this
        exact absurd this.symm hd
  · exact absurd (h.wrong hs).1.zero hs
theorem Verd.none {n : NetL} {i o most e : Int} {v : VerdL} (h : Verd n i o most v e) (he : e ≠ 0) : v = ⟨0, [], 0⟩ := by
  by_cases hs : ShapeOk n i o
  · cases hg : graphL n (startL n.places i) most with
    | mk s d =>
      by_cases hd : d = 0
      · subst hd; exact absurd (h.right hs s hg).1 he
      · exact (h.full hs (by rw [hg]; exact hd)).2
  · exact (h.wrong hs).2

/-- What is sound. -/
theorem SaysV.kind {n : NetL} {E : List Int} {s : SpaceL} {v : VerdL} (h : SaysV n E s v) : v.kind = 1 ↔ (∀ j, j < s.marks.length → ¬ ExtraM E (markAt s.marks j)) ∧ (∀ j, j < s.marks.length → ReachZ n (markAt s.marks j) E) ∧ deadL (toZ s) n.trans.length = [] := by
  constructor
  · intro hk
    rcases h.cases with ⟨j, a1, a2, a3, e⟩ | ⟨a1, j, a2, a3, a4, e⟩ | ⟨a1, a2, t, ts, a3, e⟩ | ⟨a1, a2, a3, e⟩
    · rw [e] at hk; simp at hk
    · rw [e] at hk; simp at hk
    · rw [e] at hk; simp at hk
    · exact ⟨a1, a2, a3⟩
  · rintro ⟨a1, a2, a3⟩
    rw [h.sound a1 a2 a3]

/-! ### what is within some marks is told -/
theorem graph_within {n : NetL} {m : List Int} {most : Nat} {L : List (List Int)} (hm : 1 ≤ most) (hmx : most ≤ 300) (hf : fitsL n m = true) (hL : L.length ≤ most) (hin : ∀ x, ReachZ n m x → x ∈ L) (hr : ∀ x, ReachZ n m x → rightL x = true) : ∃ u, graphL n m most = (u, 0) := by
  have hok : graphOk n m most = true := by simp [graphOk, hf]; omega
  cases hg : graphTo n m most most with
  | some u => exact ⟨u, by rw [graphL, hok]; simp only [if_true, Int.toNat_natCast]; rw [hg]⟩
  | none =>
    exfalso
    obtain ⟨f, j, sp, hj, hF, hff, ht⟩ := graph_broke hm hf _ hg
    have hfit := hF.fits _ (markAt_mem hff)
    have hz := hF.reachZ f hff
    unfold tryT at ht
    split at ht
    · cases ht
    · rename_i h3
      have hcv : coversL (markAt sp.marks f) (tranAt n.trans j).pre = true := by
        cases hc : coversL (markAt sp.marks f) (tranAt n.trans j).pre
        · refine absurd ?_ h3
          unfold fireL
          rw [hfit, Int.toNat_natCast, hc]; simp
        · rfl
      have hst : StepZ n (markAt sp.marks f) j (addL (subL (markAt sp.marks f) (tranAt n.trans j).pre) (tranAt n.trans j).post) := ⟨hj, (coversL_iff _ _).1 hcv, rfl⟩
      have e1 := fire_mk hj hfit hcv (hr _ (hz.step hst))
      rw [e1] at ht
      simp only [BEq.rfl, if_true] at ht
      split at ht
      · cases ht
      · rename_i hfn
        split at ht
        · rename_i hlen
          have hx := findM_none hfn
          have hnd : (sp.marks ++ [addL (subL (markAt sp.marks f) (tranAt n.trans j).pre) (tranAt n.trans j).post]).Nodup := by
            rw [List.nodup_append]
            exact ⟨hF.nodup, by simp, fun a ha b hb e => by rw [List.mem_singleton] at hb; subst hb; subst e; exact hx ha⟩
          have := nodup_sub (l2 := L) hnd (fun x hx => hin x (by
            rcases List.mem_append.1 hx with q | q
            · obtain ⟨i, hi, rfl⟩ := List.getElem_of_mem q
              have := hF.reachZ i hi
              rw [markAt, List.getD_eq_getElem?_getD, List.getElem?_eq_getElem hi] at this
              exact this
            · rw [List.mem_singleton] at q; subst q; exact hz.step hst))
          simp at this
          omega
        · cases ht

/-- What was found is come to, and all that. -/
theorem Whole.iff {n : NetL} {m x : List Int} {s : SpaceL} (h : Whole n m s) : ReachZ n m x ↔ ∃ g, g < s.marks.length ∧ markAt s.marks g = x := by
  refine ⟨h.has, ?_⟩
  rintro ⟨g, hg, rfl⟩
  obtain ⟨_, _, hF, _⟩ := h
  exact hF.reachZ g hg
theorem Whole.right_of {n : NetL} {m x : List Int} {s : SpaceL} (h : Whole n m s) (hr : ReachZ n m x) : fitsL n x = true := by
  obtain ⟨g, hg, rfl⟩ := h.has hr
  exact h.fits hg

/-- Where more comes of less there is no end. -/
theorem no_pump {n : NetL} {m d : List Int} {s : SpaceL} (h : Whole n m s) (hd : (d.length : Int) = n.places) (h0 : ∀ p, 0 ≤ nth d p) (hp : ∃ p, nth d p ≠ 0) (hr : ReachZ n m (addL m d)) : False := by
  have hfm := h.right_of (ReachZ.here (n := n) (a := m))
  obtain ⟨hn, hl, hrm⟩ := fits_net hfm
  have rep : ∀ k : Nat, ∃ x, ReachZ n m x ∧ (x.length : Int) = n.places ∧ ∀ p, nth x p = nth m p + k * nth d p := by
    intro k
    induction k with
    | zero => exact ⟨m, ReachZ.here, hl, fun p => by simp⟩
    | succ k ih =>
      obtain ⟨x, hx, hxl, hxp⟩ := ih
      -- k times d beside
      let kd : List Int := subL x m
      have hkl : (kd.length : Int) = n.places := by show ((subL x m).length : Int) = _; rw [sub_length]; omega
      have hk0 : ∀ p, 0 ≤ nth kd p := fun p => by
        show 0 ≤ nth (subL x m) p
        rw [sub_at, hxp p]
        have := h0 p
        have : 0 ≤ (k : Int) * nth d p := Int.mul_nonneg (by omega) this
        omega
      have q := ReachZ.more hn hr hl hkl hk0
      have e : addL m kd = x := by
        refine eq_of_at (by show (addL m (subL x m)).length = _; rw [add_length, sub_length]; omega) fun p => ?_
        show nth (addL m (subL x m)) p = _
        rw [add_at, sub_at]; omega
      rw [e] at q
      refine ⟨addL (addL m d) kd, hx.trans q, by rw [add_length, add_length]; omega, fun p => ?_⟩
      show nth (addL (addL m d) (subL x m)) p = _
      rw [add_at, add_at, sub_at, hxp p]
      have : ((k + 1 : Nat) : Int) * nth d p = (k : Int) * nth d p + nth d p := by rw [Int.natCast_add, Int.add_mul]; simp
      omega
  obtain ⟨p, hp⟩ := hp
  obtain ⟨x, hx, _, hxp⟩ := rep 1000001
  have h1 := (okTok_nth (fits_net (h.right_of hx)).2.2 p).2
  have h2 := (okTok_nth hrm p).1
  have h3 := h0 p
  have := hxp p
  omega

end Go.Proofs.Ytfgimobmaahmmaa

/- Van der Aalst: a net is sound just if, closed, it has a bound and all its transitions are live. -/
namespace Go.Proofs.Ytfgimobmaahmmaa
set_option linter.unusedVariables false
set_option maxRecDepth 4000

theorem stepC {n : NetL} {i o : Int} {x y : List Int} {t : Nat} (h : StepZ (closeL n i o) x t y) : StepZ n x t y ∨ (t = n.trans.length ∧ (∀ p, nth (startL n.places o) p ≤ nth x p) ∧ y = addL (subL x (startL n.places o)) (startL n.places i)) := by
  obtain ⟨ht, hc, e⟩ := h
  rw [close_count] at ht
  by_cases q : t < n.trans.length
  · rw [close_at n i o q] at hc e
    exact .inl ⟨q, hc, e⟩
  · have : t = n.trans.length := by omega
    subst this
    rw [close_last] at hc e
    exact .inr ⟨rfl, hc, e⟩
theorem stepC_of {n : NetL} {i o : Int} {x y : List Int} {t : Nat} (h : StepZ n x t y) : StepZ (closeL n i o) x t y := by
  obtain ⟨ht, hc, e⟩ := h
  exact ⟨by rw [close_count]; omega, by rw [close_at n i o ht]; exact hc, by rw [close_at n i o ht]; exact e⟩
theorem stepC_last {n : NetL} {i o : Int} {x : List Int} (h : ∀ p, nth (startL n.places o) p ≤ nth x p) : StepZ (closeL n i o) x n.trans.length (addL (subL x (startL n.places o)) (startL n.places i)) :=
  ⟨by rw [close_count]; omega, by rw [close_last]; exact h, by rw [close_last]⟩
theorem round_same2 (P i o : Int) : addL (subL (startL P o) (startL P o)) (startL P i) = startL P i := by
  refine eq_of_at ?_ fun j => ?_
  · rw [add_length, sub_length]
    simp only [start_length]
    omega
  · rw [add_at, sub_at]; omega
theorem stepC_end (n : NetL) (i o : Int) : StepZ (closeL n i o) (startL n.places o) n.trans.length (startL n.places i) := by
  have h := stepC_last (n := n) (i := i) (o := o) (x := startL n.places o) fun _ => Int.le_refl _
  rwa [round_same2] at h
theorem reachC {n : NetL} {i o : Int} {a b : List Int} (h : ReachZ n a b) : ReachZ (closeL n i o) a b := by
  induction h using ReachZ.ind with
  | here => exact .here
  | step _ hs ih => exact ih.step (stepC_of hs)

/-- Where nothing has anything beside the end, what covers it is it. -/
theorem only_end {E x : List Int} (h : ¬ ExtraM E x) (hc : ∀ p, nth E p ≤ nth x p) : x = E := by
  by_cases e : x = E
  · exact e
  · exact absurd ⟨(coversL_iff _ _).2 hc, e⟩ h
theorem reachC_in {n : NetL} {i o : Int} {x : List Int} (hx : ∀ x, ReachZ n (startL n.places i) x → ¬ ExtraM (startL n.places o) x) (h : ReachZ (closeL n i o) (startL n.places i) x) : ReachZ n (startL n.places i) x := by
  induction h using ReachZ.ind with
  | here => exact .here
  | step _ hs ih =>
    rcases stepC hs with q | ⟨_, hc, rfl⟩
    · exact ih.step q
    · rw [only_end (hx _ ih) hc, round_same2]
      exact .here
theorem reachC_end {n : NetL} {i o : Int} {x y : List Int} (hx : ∀ x, ReachZ n (startL n.places i) x → ¬ ExtraM (startL n.places o) x) (h0 : ReachZ n (startL n.places i) x) (h : ReachZ (closeL n i o) x y) : ReachZ n x y ∨ ReachZ n x (startL n.places o) := by
  induction h using ReachZ.ind with
  | here => exact .inl .here
  | step _ hs ih =>
    rcases ih with ih | ih
    · rcases stepC hs with q | ⟨_, hc, rfl⟩
      · exact .inl (ih.step q)
      · right
        rw [← only_end (hx _ (h0.trans ih)) hc]
        exact ih
    · exact .inr ih

theorem Whole.reach_comes {n : NetL} {m y : List Int} {s : SpaceL} (h : Whole n m s) {f : Nat} (hf : f < s.marks.length) (hr : ReachZ n (markAt s.marks f) y) : ∃ g : Nat, g < s.marks.length ∧ markAt s.marks g = y ∧ Comes (toZ s) f g := by
  induction hr using ReachZ.ind with
  | here => exact ⟨f, hf, rfl, Comes.here _⟩
  | @step x y t _ hs ih =>
    obtain ⟨g, hg, rfl, hc⟩ := ih
    obtain ⟨ht, hcv, rfl⟩ := hs
    rcases h.fire hg t with q | ⟨j, g2, e, ha, hg2, e2⟩
    · exact absurd q (fire_code (h.fits hg) ht hcv)
    · obtain ⟨j', e3, _, _, _, _, e4⟩ := fire_ok e2
      have : j' = t := by omega
      subst this
      have hz : ((g : Int), (j : Int), (g2 : Int)) ∈ (toZ s).arcs := mem_arcZ.2 ⟨_, ha, rfl⟩
      exact ⟨g2, hg2, e4, Comes.go (a := ((g : Int), (j : Int), (g2 : Int))) hc hz⟩
theorem Whole.comes_reach {n : NetL} {m : List Int} {s : SpaceL} (h : Whole n m s) {f : Nat} (hf : f < s.marks.length) {y : Int} (hc : Comes (toZ s) f y) : ∃ g : Nat, y = g ∧ g < s.marks.length ∧ ReachZ n (markAt s.marks f) (markAt s.marks g) := by
  obtain ⟨j, e, hj, seq, hs⟩ := h.comes_run hf hc
  exact ⟨j, e, hj, run_reachZ seq hs⟩
/-- Who can fire has an arc. -/
theorem Whole.has_arc {n : NetL} {m : List Int} {s : SpaceL} (h : Whole n m s) {f t : Nat} (hf : f < s.marks.length) (ht : t < n.trans.length) (hc : ∀ p, nth (tranAt n.trans t).pre p ≤ nth (markAt s.marks f) p) : ∃ a ∈ (toZ s).arcs, a.2.1 = t ∧ a.1 = f := by
  rcases h.fire hf t with q | ⟨j, g2, e, ha, hg2, e2⟩
  · exact absurd q (fire_code (h.fits hf) ht hc)
  · exact ⟨((f : Int), (j : Int), (g2 : Int)), mem_arcZ.2 ⟨_, ha, rfl⟩, e.symm, rfl⟩
theorem Whole.arc_can {n : NetL} {m : List Int} {s : SpaceL} (h : Whole n m s) {a : Int × Int × Int} (ha : a ∈ (toZ s).arcs) : ∃ f t : Nat, a.1 = f ∧ a.2.1 = t ∧ f < s.marks.length ∧ t < n.trans.length ∧ ∀ p, nth (tranAt n.trans t).pre p ≤ nth (markAt s.marks f) p := by
  obtain ⟨b, hb, rfl⟩ := mem_arcZ.1 ha
  obtain ⟨h1, h2, h3, h4⟩ := h.sound b hb
  obtain ⟨k, e, _, _, hc, _⟩ := fire_ok h4
  have : k = b.tran := by omega
  subst this
  exact ⟨b.frm, b.tran, rfl, rfl, h1, h3, (coversL_iff _ _).1 hc⟩

theorem range_all {N : Nat} {xs : List Int} (hu : xs.Pairwise (· < ·)) (hin : ∀ t ∈ xs, 0 ≤ t ∧ t < N) : xs.length = N ↔ ∀ t : Nat, t < N → (t : Int) ∈ xs := by
  have e : xs = (rangeL N).filter fun t => xs.contains t := by
    refine up_unique hu ((range_sorted N).sublist List.filter_sublist) fun t => ?_
    rw [List.mem_filter, mem_range, List.contains_iff_mem]
    exact ⟨fun h => ⟨hin t h, h⟩, fun h => h.2⟩
  have hl : (rangeL N).length = N := by simp [rangeL]
  constructor
  · intro h t ht
    have : (rangeL N).filter (fun t => xs.contains t) = rangeL N := List.filter_sublist.eq_of_length (by rw [← e, hl]; exact h)
    have hm : (t : Int) ∈ rangeL N := mem_range.2 (by omega)
    rw [← this, List.mem_filter, List.contains_iff_mem] at hm
    exact hm.2
  · intro h
    have : (rangeL N).filter (fun t => xs.contains t) = rangeL N := by
      rw [List.filter_eq_self]
      intro t ht
      rw [List.contains_iff_mem]
      obtain ⟨h1, h2⟩ := mem_range.1 ht
      obtain ⟨k, rfl⟩ := Int.eq_ofNat_of_zero_le h1
      exact h k (by omega)
    rw [e, this, hl]

section
variable {n : NetL} {i o most : Int} {s : SpaceL} {v : VerdL}

theorem mark_len (h : Whole n (startL n.places i) s) {j : Nat} (hj : j < s.marks.length) : ((markAt s.marks j).length : Int) = n.places := (fits_net (h.fits hj)).2.1

/-- What is sound has, closed, as many marks. -/
theorem close_graph (hS : ShapeOk n i o) (hl : n.trans.length < 24) (hg : graphL n (startL n.places i) most = (s, 0)) (hv : SaysV n (startL n.places o) s v) (hk : v.kind = 1) : ∃ u, graphL (closeL n i o) (startL n.places i) 300 = (u, 0) := by
  obtain ⟨h1, h2, h3⟩ := hv.kind.1 hk
  have hW := graphL_whole hg
  obtain ⟨m1, m2, _, _, hF⟩ := graphL_ok hg
  have hx : ∀ x, ReachZ n (startL n.places i) x → ¬ ExtraM (startL n.places o) x := fun x hr => by
    obtain ⟨g, hgl, rfl⟩ := hW.has hr
    exact h1 g hgl
  have hfit : fitsL (closeL n i o) (startL n.places i) = true := by rw [close_fits hS.ok hl]; exact start_fits hS.ok i
  have := graph_within (n := closeL n i o) (m := startL n.places i) (most := 300) (L := s.marks) (by omega) (by omega) hfit (by have := hF.most_le; omega) (fun x hr => by
    obtain ⟨g, hgl, rfl⟩ := hW.has (reachC_in hx hr)
    exact markAt_mem hgl) (fun x hr => (fits_net (hW.right_of (reachC_in hx hr))).2.2)
  exact this

/-- Van der Aalst. -/
theorem close_live {u : SpaceL} {xs : List Int} (hS : ShapeOk n i o) (hl : n.trans.length < 24) (hg : graphL n (startL n.places i) most = (s, 0)) (hv : SaysV n (startL n.places o) s v) (hu : graphL (closeL n i o) (startL n.places i) 300 = (u, 0))
    (hL : IsLive (toZ u) ((n.trans.length + 1 : Nat) : Int) xs) : v.kind = 1 ↔ xs.length = n.trans.length + 1 := by
  have hW := graphL_whole hg
  have hC := graphL_whole hu
  have hok := close_ok hS.ok hl i o
  have hin : ∀ t ∈ xs, 0 ≤ t ∧ t < ((n.trans.length + 1 : Nat) : Int) := fun t ht => by
    obtain ⟨_, q1, q2, _⟩ := (hL.mem t).1 ht
    omega
  rw [range_all hL.up hin, hv.kind]
  constructor
  · rintro ⟨h1, h2, h3⟩ t ht
    have hx : ∀ x, ReachZ n (startL n.places i) x → ¬ ExtraM (startL n.places o) x := fun x hr => by
      obtain ⟨g, hgl, rfl⟩ := hW.has hr
      exact h1 g hgl
    refine (hL.mem t).2 ⟨hC.right, by omega, by omega, fun k hk0 hk => ?_⟩
    obtain ⟨k, rfl⟩ := Int.eq_ofNat_of_zero_le hk0
    have hk : k < u.marks.length := by
      have : (k : Int) < (u.marks.length : Int) := hk
      omega
    have r0 : ReachZ n (startL n.places i) (markAt u.marks k) := reachC_in hx (hC.iff.2 ⟨k, hk, rfl⟩)
    obtain ⟨g, hgl, eg⟩ := hW.has r0
    have r1 : ReachZ (closeL n i o) (markAt u.marks k) (startL n.places o) := by
      have := h2 g hgl
      rw [eg] at this
      exact reachC this
    by_cases hT : t = n.trans.length
    · obtain ⟨e, he, ee, hc⟩ := hC.reach_comes hk r1
      obtain ⟨a, ha, a1, a2⟩ := hC.has_arc (t := n.trans.length) he (by rw [close_count]; omega) (fun p => by rw [close_last, ee]; exact Int.le_refl _)
      exact ⟨a, ha, by rw [a1, hT], by rw [a2]; exact hc⟩
    · have hnd : ¬ (t : Int) ∈ deadL (toZ s) n.trans.length := by rw [h3]; simp
      have : ∃ a ∈ (toZ s).arcs, a.2.1 = (t : Int) := by
        refine Classical.byContradiction fun q => hnd (mem_dead.2 ⟨by omega, by omega, fun a ha e => q ⟨a, ha, e⟩⟩)
      obtain ⟨a, ha, ea⟩ := this
      obtain ⟨f, t', e1, e2, hf, ht', hcv⟩ := hW.arc_can ha
      have : t' = t := by omega
      subst this
      have r2 : ReachZ (closeL n i o) (markAt u.marks k) (markAt s.marks f) := (r1.step (stepC_end n i o)).trans (reachC (hW.iff.2 ⟨f, hf, rfl⟩))
      obtain ⟨e, he, ee, hc⟩ := hC.reach_comes hk r2
      obtain ⟨b, hb, b1, b2⟩ := hC.has_arc (t := t') he (by rw [close_count]; omega) (fun p => by rw [close_at n i o ht', ee]; exact hcv p)
      exact ⟨b, hb, b1, by rw [b2]; exact hc⟩
  · intro hall
    have live : ∀ t : Nat, t < n.trans.length + 1 → ∀ k : Nat, k < u.marks.length → ∃ (f : Nat), f < u.marks.length ∧ ReachZ (closeL n i o) (markAt u.marks k) (markAt u.marks f) ∧ ∀ p, nth (tranAt (closeL n i o).trans t).pre p ≤ nth (markAt u.marks f) p := by
      intro t ht k hk
      obtain ⟨_, _, _, q⟩ := (hL.mem t).1 (hall t ht)
      obtain ⟨a, ha, e1, hc⟩ := q k (by omega) (by show (k : Int) < (u.marks.length : Int); omega)
      obtain ⟨f, t', e2, e3, hf, ht', hcv⟩ := hC.arc_can ha
      have : t' = t := by omega
      subst this
      obtain ⟨g, eg, hgl, hr⟩ := hC.comes_reach hk hc
      have : g = f := by omega
      subst this
      exact ⟨g, hgl, hr, hcv⟩
    have h1 : ∀ x, ReachZ n (startL n.places i) x → ¬ ExtraM (startL n.places o) x := by
      intro x hr hx
      obtain ⟨hcv, hne⟩ := hx
      have hcv := (coversL_iff _ _).1 hcv
      have hxl : (x.length : Int) = n.places := hr.length hS.ok (start_len hS.ok i)
      have hel := start_len hS.ok o
      have hsl := start_len hS.ok i
      have r : ReachZ (closeL n i o) (startL n.places i) (addL (startL n.places i) (subL x (startL n.places o))) := by
        have := (reachC (i := i) (o := o) hr).step (stepC_last hcv)
        have e : addL (subL x (startL n.places o)) (startL n.places i) = addL (startL n.places i) (subL x (startL n.places o)) := by
          refine eq_of_at (by rw [add_length, add_length]; omega) fun p => ?_
          rw [add_at, add_at]; omega
        rwa [e] at this
      refine no_pump hC (by show ((subL x (startL n.places o)).length : Int) = n.places; rw [sub_length]; omega) (fun p => by rw [sub_at]; have := hcv p; omega) ?_ r
      refine Classical.byContradiction fun q => hne (eq_of_at (by omega) fun p => ?_)
      have : nth (subL x (startL n.places o)) p = 0 := Classical.byContradiction fun z => q ⟨p, z⟩
      rw [sub_at] at this
      omega
    have inN : ∀ f, f < u.marks.length → ReachZ n (startL n.places i) (markAt u.marks f) := fun f hf => reachC_in h1 (hC.iff.2 ⟨f, hf, rfl⟩)
    refine ⟨fun j hj => h1 _ (hW.iff.2 ⟨j, hj, rfl⟩), fun j hj => ?_, ?_⟩
    · have r0 : ReachZ n (startL n.places i) (markAt s.marks j) := hW.iff.2 ⟨j, hj, rfl⟩
      obtain ⟨k, hk, ek⟩ := hC.has (reachC r0)
      obtain ⟨f, hf, hr, hcv⟩ := live n.trans.length (by omega) k hk
      rw [close_last] at hcv
      have e := only_end (h1 _ (inN f hf)) hcv
      rw [ek, e] at hr
      rcases reachC_end h1 r0 hr with q | q
      · exact q
      · exact q
    · rw [List.eq_nil_iff_forall_not_mem]
      intro t ht
      obtain ⟨q1, q2, q3⟩ := mem_dead.1 ht
      obtain ⟨t, rfl⟩ := Int.eq_ofNat_of_zero_le q1
      have htT : t < n.trans.length := by omega
      obtain ⟨f, hf, hr, hcv⟩ := live t (by omega) 0 hC.here.1
      rw [close_at n i o htT] at hcv
      obtain ⟨g, hgl, eg⟩ := hW.has (inN f hf)
      rw [← eg] at hcv
      obtain ⟨a, ha, a1, _⟩ := hW.has_arc hgl htT hcv
      exact q3 a ha a1

end

end Go.Proofs.Ytfgimobmaahmmaa

/- Which verdict it is, plainly. -/
namespace Go.Proofs.Ytfgimobmaahmmaa
set_option linter.unusedVariables false
set_option maxRecDepth 4000

theorem shape_two {n : NetL} {i o : Int} (h : ShapeOk n i o) : 2 ≤ n.places := by
  have h1 := h.i0
  have h2 := h.o0
  have h3 := h.i1
  have h4 := h.o1
  have h5 := h.ne
  omega
theorem says_extra {n : NetL} {E : List Int} {s : SpaceL} {k : Nat} (hk : k < s.marks.length) (h : ExtraM E (markAt s.marks k)) (h0 : ∀ j, j < k → ¬ ExtraM E (markAt s.marks j)) : SaysV n E s ⟨2, markAt s.marks k, 0⟩ := by
  refine ⟨fun j hj hx hj0 => ?_, fun q => absurd h (q k hk), fun q => absurd h (q k hk), fun q => absurd h (q k hk)⟩
  rcases Nat.lt_trichotomy j k with e | e | e
  · exact absurd hx (h0 j e)
  · rw [e]
  · exact absurd h (hj0 k e)
theorem says_stuck {n : NetL} {E : List Int} {s : SpaceL} {k : Nat} (hx : ∀ j, j < s.marks.length → ¬ ExtraM E (markAt s.marks j)) (hk : k < s.marks.length) (h : ¬ ReachZ n (markAt s.marks k) E) (h0 : ∀ j, j < k → ReachZ n (markAt s.marks j) E) : SaysV n E s ⟨3, markAt s.marks k, 0⟩ := by
  refine ⟨fun j hj q _ => absurd q (hx j hj), fun _ j hj hr hj0 => ?_, fun _ q => absurd (q k hk) h, fun _ q => absurd (q k hk) h⟩
  rcases Nat.lt_trichotomy j k with e | e | e
  · exact absurd (h0 j e) hr
  · rw [e]
  · exact absurd (hj0 k e) h
theorem says_dead {n : NetL} {E : List Int} {s : SpaceL} {t : Int} {ts : List Int} (hx : ∀ j, j < s.marks.length → ¬ ExtraM E (markAt s.marks j)) (hr : ∀ j, j < s.marks.length → ReachZ n (markAt s.marks j) E) (hd : deadL (toZ s) n.trans.length = t :: ts) : SaysV n E s ⟨4, [], t⟩ := by
  refine ⟨fun j hj q _ => absurd q (hx j hj), fun _ j hj q _ => absurd (hr j hj) q, fun _ _ t' ts' e => ?_, fun _ _ e => ?_⟩
  · rw [hd] at e; injection e with e1 _; rw [e1]
  · rw [hd] at e; cases e
theorem says_sound {n : NetL} {E : List Int} {s : SpaceL} (hx : ∀ j, j < s.marks.length → ¬ ExtraM E (markAt s.marks j)) (hr : ∀ j, j < s.marks.length → ReachZ n (markAt s.marks j) E) (hd : deadL (toZ s) n.trans.length = []) : SaysV n E s ⟨1, [], 0⟩ := by
  refine ⟨fun j hj q _ => absurd q (hx j hj), fun _ j hj q _ => absurd (hr j hj) q, fun _ _ t' ts' e => ?_, fun _ _ _ => rfl⟩
  rw [hd] at e; cases e
theorem verd_right {n : NetL} {i o most : Int} {s : SpaceL} {x : VerdL} (hS : ShapeOk n i o) (hg : graphL n (startL n.places i) most = (s, 0)) (h : SaysV n (startL n.places o) s x) : Verd n i o most x 0 := by
  refine ⟨fun q => absurd hS q, fun _ q => ?_, fun _ u hu => ?_⟩
  · rw [hg] at q; exact absurd rfl q
  · rw [hg] at hu; injection hu with e _; subst e; exact ⟨rfl, h⟩
theorem verd_full {n : NetL} {i o most : Int} (hS : ShapeOk n i o) (hg : (graphL n (startL n.places i) most).2 ≠ 0) : Verd n i o most ⟨0, [], 0⟩ (graphL n (startL n.places i) most).2 := by
  refine ⟨fun q => absurd hS q, fun _ _ => ⟨rfl, rfl⟩, fun _ u hu => ?_⟩
  rw [hu] at hg; exact absurd rfl hg

end Go.Proofs.Ytfgimobmaahmmaa

/- What is sound comes to its end; what is not is shown so; more room changes nothing. -/
namespace Go.Proofs.Ytfgimobmaahmmaa
set_option linter.unusedVariables false
set_option maxRecDepth 4000

section
variable {n : NetL} {i o most : Int} {s : SpaceL} {v : VerdL}

/-- From whatever mark there is room enough. -/
theorem again_most {m : List Int} (hg : graphL n m most = (s, 0)) {x : List Int} (hr : ReachZ n m x) : ∃ u, graphL n x most = (u, 0) := by
  have hW := graphL_whole hg
  obtain ⟨m1, m2, _, _, hF⟩ := graphL_ok hg
  obtain ⟨k, rfl⟩ := Int.eq_ofNat_of_zero_le (show 0 ≤ most by omega)
  exact graph_within (L := s.marks) (by omega) (by omega) (hW.right_of hr) (by have := hF.most_le; rwa [Int.toNat_natCast] at this) (fun y hy => by
    obtain ⟨g, hgl, rfl⟩ := hW.has (hr.trans hy)
    exact markAt_mem hgl) (fun y hy => (fits_net (hW.right_of (hr.trans hy))).2.2)

theorem path_to {m x : List Int} (hg : graphL n m most = (s, 0)) (hr : ReachZ n m x) : ∃ p, reachL n m x most = (p, 0) ∧ runL n m p = (x, 0) := by
  obtain ⟨g, hgl, rfl⟩ := (graphL_whole hg).has hr
  obtain ⟨p, h1, h2, _⟩ := reach_true hg hgl
  exact ⟨p, h1, h2⟩
theorem path_none {m x : List Int} (hg : graphL n m most = (s, 0)) (hr : ¬ ReachZ n m x) : (reachL n m x most).2 = 3 := by
  have hW := graphL_whole hg
  unfold reachL
  rw [hg]
  simp only [BEq.rfl, if_true]
  cases hf : findM s.marks x with
  | none => rfl
  | some g =>
    obtain ⟨h1, h2⟩ := findM_some hf
    exact absurd (hW.iff.2 ⟨g, h1, h2⟩) hr

/-- What is sound always comes to its end. -/
theorem sound_means (hg : graphL n (startL n.places i) most = (s, 0)) (hv : SaysV n (startL n.places o) s v) (hk : v.kind = 1) (seq : List Int) :
    (runL n (startL n.places i) seq).2 = 3 ∨ ∃ x, runL n (startL n.places i) seq = (x, 0) ∧ (∃ p, reachL n x (startL n.places o) most = (p, 0) ∧ runL n x p = (startL n.places o, 0)) ∧ (coversL x (startL n.places o) = true → x = startL n.places o) := by
  obtain ⟨h1, h2, h3⟩ := hv.kind.1 hk
  have hW := graphL_whole hg
  have he := hW.here
  rcases hW.run seq (f := 0) he.1 with q | ⟨g, hgl, e⟩
  · rw [he.2] at q; exact .inl q
  · rw [he.2] at e
    refine .inr ⟨_, e, ?_, fun hc => ?_⟩
    · obtain ⟨u, hu⟩ := again_most hg (hW.iff.2 ⟨g, hgl, rfl⟩)
      exact path_to hu (h2 g hgl)
    · refine Classical.byContradiction fun q => h1 g hgl ⟨hc, q⟩

/-- What is not is shown so. -/
theorem sound_witness (hS : ShapeOk n i o) (hg : graphL n (startL n.places i) most = (s, 0)) (hv : SaysV n (startL n.places o) s v) :
    v.kind = 1 ∨ (v.kind = 2 ∧ (reachL n (startL n.places i) v.at_ most).2 = 0 ∧ coversL v.at_ (startL n.places o) = true ∧ v.at_ ≠ startL n.places o) ∨
    (v.kind = 3 ∧ (reachL n (startL n.places i) v.at_ most).2 = 0 ∧ (reachL n v.at_ (startL n.places o) most).2 = 3) ∨
    (v.kind = 4 ∧ 0 ≤ v.tran ∧ v.tran < n.trans.length ∧ ∀ seq, (runL n (startL n.places i) seq).2 = 0 → v.tran ∉ seq) := by
  have hW := graphL_whole hg
  rcases hv.cases with ⟨k, a1, a2, a3, rfl⟩ | ⟨a1, k, a2, a3, a4, rfl⟩ | ⟨a1, a2, t, ts, a3, rfl⟩ | ⟨a1, a2, a3, rfl⟩
  · obtain ⟨p, h1, _⟩ := path_to hg (hW.iff.2 ⟨k, a1, rfl⟩)
    exact .inr (.inl ⟨rfl, by rw [h1], a2.1, a2.2⟩)
  · obtain ⟨p, h1, _⟩ := path_to hg (hW.iff.2 ⟨k, a2, rfl⟩)
    obtain ⟨u, hu⟩ := again_most hg (hW.iff.2 ⟨k, a2, rfl⟩)
    exact .inr (.inr (.inl ⟨rfl, by rw [h1], path_none hu a3⟩))
  · have ht : t ∈ deadL (toZ s) n.trans.length := by rw [a3]; simp
    obtain ⟨q1, q2, q3⟩ := mem_dead.1 ht
    refine .inr (.inr (.inr ⟨rfl, q1, by show t < _; omega, fun seq hs hin => ?_⟩))
    have he := hW.here
    cases hr : runL n (startL n.places i) seq with
    | mk x cd =>
      rw [hr] at hs
      simp only at hs
      subst hs
      obtain ⟨_, h2⟩ := hW.run_comes seq (i := 0) (k := 0) (z := x) he.1 (Comes.here _) (by rw [he.2]; exact hr)
      obtain ⟨a, ha, e, _⟩ := h2 t hin
      exact q3 (arcZ a) (mem_arcZ.2 ⟨a, ha, rfl⟩) e
  · exact .inl rfl

/-- More room changes no verdict. -/
theorem sound_room {more f : Int} {u : VerdL} (h : Verd n i o most v 0) (k : Verd n i o more u f) (h1 : most ≤ more) (h2 : more ≤ 300) : f = 0 ∧ u = v := by
  obtain ⟨hS, s, hg, hs⟩ := h.zero
  obtain ⟨m1, _, _, _, hF⟩ := graphL_ok hg
  have hr := graph_room hg (more := more) (by omega) h2
  have hml := hF.most_le
  have : graphL n (startL n.places i) more = (s, 0) := by
    rw [hr, if_pos (by omega)]
  obtain ⟨k1, k2⟩ := k.right hS s this
  exact ⟨k1, k2.unique hs⟩

end

end Go.Proofs.Ytfgimobmaahmmaa

/- A row of ints that the call itself made, written at any index. -/
namespace Go.Proofs.Ytfgimobmaahmmaa
open Go.RowKit
set_option linter.unusedVariables false
set_option maxRecDepth 4000

/-- A row of n ints that the call itself made, at block B, that holds f; nothing older has turned. -/
structure RowAt (B : Nat) (w wr : World) (n : Nat) (f : Nat → Int) : Prop where
  cells : ∀ j, j < n → wr.cell? ⟨B, j, none⟩ = some (.int .i64 (f j))
  frozen : ∀ j, j < n → wr.frozen? ⟨B, j, none⟩ = false
  below : Below B w wr
  size : B < wr.heap.size

theorem RowAt.put {B : Nat} {w wr : World} {n k : Nat} {f g : Nat → Int} (h : RowAt B w wr n f) (hk : k < n) {x : Int} (hx : g k = x) (hg : ∀ j, j < n → j ≠ k → g j = f j) :
    RowAt B w (wr.setCell ⟨B, k, none⟩ (.int .i64 x)) n g := by
  refine ⟨fun j hj => ?_, fun j hj => by rw [World.frozen?_setCell]; exact h.frozen j hj, h.below.setCell (Nat.le_refl _) _, by simpa [World.setCell] using h.size⟩
  by_cases e : j = k
  · subst e
    rw [World.cell?_setCell_same _ _ _ (h.cells j hj), hx]
  · rw [World.cell?_setCell_other _ _ _ _ (by intro q; apply e; injection q with _ q2; exact q2.symm), h.cells j hj, hg j hj e]

theorem RowAt.same {B : Nat} {w wr : World} {n : Nat} {f g : Nat → Int} (h : RowAt B w wr n f) (hg : ∀ j, j < n → g j = f j) : RowAt B w wr n g :=
  ⟨fun j hj => by rw [h.cells j hj, hg j hj], h.frozen, h.below, h.size⟩

theorem RowAt.to {B : Nat} {w wr w2 : World} {n : Nat} {f : Nat → Int} (h : RowAt B w wr n f) (hb : Below wr.heap.size wr w2) : RowAt B w w2 n f :=
  ⟨fun j hj => by rw [hb.cell (p := ⟨B, j, none⟩) h.size]; exact h.cells j hj, fun j hj => by rw [hb.frozen (p := ⟨B, j, none⟩) h.size]; exact h.frozen j hj, h.below.trans (hb.mono (Nat.le_of_lt h.size)), Nat.lt_of_lt_of_le h.size hb.size⟩

theorem RowAt.ints {B : Nat} {w wr : World} {n : Nat} {f : Nat → Int} (h : RowAt B w wr n f) {zs : List Int} (hl : zs.length = n) (hz : ∀ j, j < n → nth zs j = f j) (hn : n ≤ 17592186044416) {cap : Nat} (hc : n ≤ cap) (hc2 : cap ≤ 9223372036854775807) :
    Ints wr (.slice (some ⟨B, 0, none⟩) n cap) zs :=
  ⟨_, _, _, rfl, hl, hn, ⟨hc, hc2, fun h => by cases h⟩, fun j hj => ⟨B, 0, rfl, h.size, by rw [Nat.zero_add, h.cells j (by omega), hz j (by omega)]⟩⟩

theorem rowAt_new {w w1 : World} {n : Nat} (hb : Below w.heap.size w w1) (hs : w.heap.size < w1.heap.size) (hc : ∀ j, j < n → w1.cell? ⟨w.heap.size, j, none⟩ = some (.int .i64 0) ∧ w1.frozen? ⟨w.heap.size, j, none⟩ = false)
    {f : Nat → Int} (hf : ∀ j, j < n → f j = 0) : RowAt w.heap.size w w1 n f :=
  ⟨fun j hj => by rw [hf j hj]; exact (hc j hj).1, fun j hj => (hc j hj).2, hb, hs⟩

theorem RowAt.on {B : Nat} {w wr : World} {n : Nat} {f : Nat → Int} (h : RowAt B w wr n f) {zs : List Int} (hl : zs.length = n) (hz : ∀ j, j < n → nth zs j = f j) (hn : n ≤ 17592186044416) {cap : Nat} (hc : n ≤ cap) (hc2 : cap ≤ 9223372036854775807) :
    On (fun k => B ≤ k) wr (fun w' => Ints w' (.slice (some ⟨B, 0, none⟩) n cap) zs) := by
  intro w' hs hk
  exact ⟨_, _, _, rfl, hl, hn, ⟨hc, hc2, fun h => by cases h⟩, fun j hj => ⟨B, 0, rfl, Nat.lt_of_lt_of_le h.size hs, by rw [Nat.zero_add, World.cell?_of_block (a := ⟨B, j, none⟩) (hk B h.size (Nat.le_refl _)), h.cells j (by omega), hz j (by omega)]⟩⟩

/-- A row of as many as a number says. -/
theorem make_intsZ (w : World) (n : Nat) (z : Int) (hz : z = n) (hn : n ≤ 17592186044416) :
    ∃ w1, (Instr.makeSlice 35 (.int .i64 z) (.int .i64 z)).run Try.prog w = .ok (.slice (some ⟨w.heap.size, 0, none⟩) n n) w1 ∧ RowAt w.heap.size w w1 n (fun _ => 0) := by
  subst hz
  obtain ⟨w1, h1, h2, h3, h4⟩ := make_ints w n hn
  exact ⟨w1, h1, rowAt_new h2 h3 h4 fun _ _ => rfl⟩

end Go.Proofs.Ytfgimobmaahmmaa

/- Stops of ways, plainly: where a way goes on, and what is met on ways from a stop. -/
namespace Go.Proofs.Ytfgimobmaahmmaa
set_option linter.unusedVariables false
set_option maxRecDepth 4000

/-- A transition (true), or a place. -/
abbrev Stop := Bool × Nat

/-- A stop of a net. -/
def FitS (n : NetL) (s : Stop) : Prop := if s.1 then s.2 < n.trans.length else (s.2 : Int) < n.places

/-- Those below k that q tells of. -/
def somes (b : Bool) (q : Nat → Bool) (k : Nat) : List Stop := ((List.range k).filter q).map fun j => (b, j)
theorem somes_yes (b : Bool) (q : Nat → Bool) (k : Nat) (h : q k = true) : somes b q (k + 1) = somes b q k ++ [(b, k)] := by
  simp [somes, List.range_succ, List.filter_append, h]
theorem somes_no (b : Bool) (q : Nat → Bool) (k : Nat) (h : q k = false) : somes b q (k + 1) = somes b q k := by
  simp [somes, List.range_succ, List.filter_append, h]
theorem somes_le (b : Bool) (q : Nat → Bool) (k : Nat) : (somes b q k).length ≤ k := by
  simp only [somes, List.length_map]
  exact Nat.le_trans (List.length_filter_le _ _) (by simp)
theorem mem_somes {b : Bool} {q : Nat → Bool} {k : Nat} {s : Stop} : s ∈ somes b q k ↔ s.1 = b ∧ s.2 < k ∧ q s.2 = true := by
  obtain ⟨c, j⟩ := s
  simp only [somes, List.mem_map, List.mem_filter, List.mem_range, Prod.mk.injEq]
  constructor
  · rintro ⟨x, ⟨h1, h2⟩, h3, h4⟩
    subst h4
    exact ⟨h3.symm, h1, h2⟩
  · rintro ⟨h1, h2, h3⟩
    exact ⟨j, ⟨h2, h3⟩, h1.symm, rfl⟩

def putsAt (n : NetL) (k p : Nat) : Bool := decide (0 < nth (tranAt n.trans k).post p)
def takesAt (n : NetL) (p k : Nat) : Bool := decide (0 < nth (tranAt n.trans k).pre p)

/-- Where a way can go on from a stop. -/
def behindL (n : NetL) (s : Stop) : List Stop :=
  if s.1 then somes false (putsAt n s.2) (tranAt n.trans s.2).post.length else somes true (takesAt n s.2) n.trans.length

theorem behind_fits {n : NetL} (hn : netOk n = true) {s t : Stop} (hs : FitS n s) (h : t ∈ behindL n s) : FitS n t := by
  obtain ⟨b, k⟩ := s
  cases b with
  | true =>
    have hk : k < n.trans.length := hs
    have h := mem_somes.1 (show t ∈ somes false _ _ from h)
    obtain ⟨c, j⟩ := t
    obtain ⟨rfl, h2, _⟩ := h
    have hl := (tran_length hn hk).2
    show (j : Int) < n.places
    have h2 : j < (tranAt n.trans k).post.length := h2
    omega
  | false =>
    have h := mem_somes.1 (show t ∈ somes true _ _ from h)
    obtain ⟨c, j⟩ := t
    obtain ⟨rfl, h2, _⟩ := h
    exact h2

theorem behind_le {n : NetL} (hn : netOk n = true) {s : Stop} (hs : FitS n s) : (behindL n s).length ≤ 24 := by
  obtain ⟨b, k⟩ := s
  obtain ⟨h0, h1, h2⟩ := head_of hn
  cases b with
  | true =>
    have hk : k < n.trans.length := hs
    have hl := (tran_length hn hk).2
    have := somes_le false (putsAt n k) (tranAt n.trans k).post.length
    show (somes false (putsAt n k) (tranAt n.trans k).post.length).length ≤ 24
    omega
  | false =>
    have := somes_le true (takesAt n k) n.trans.length
    show (somes true (takesAt n k) n.trans.length).length ≤ 24
    omega

/-- What is on ways from a stop. -/
def OnWay (n : NetL) (s t : Stop) : Prop := ∀ Q : Stop → Prop, Q s → (∀ a b, Q a → b ∈ behindL n a → Q b) → Q t
theorem OnWay.here (n : NetL) (s : Stop) : OnWay n s s := fun Q h _ => h
theorem OnWay.step {n : NetL} {s a b : Stop} (h : OnWay n s a) (hb : b ∈ behindL n a) : OnWay n s b := fun Q q1 q2 => q2 a b (h Q q1 q2) hb
theorem OnWay.first {n : NetL} {s a b : Stop} (hb : a ∈ behindL n s) (h : OnWay n a b) : OnWay n s b := h (fun x => OnWay n s x) ((OnWay.here n s).step hb) fun _ _ q e => q.step e
theorem OnWay.fits {n : NetL} (hn : netOk n = true) {s t : Stop} (hs : FitS n s) (h : OnWay n s t) : FitS n t := h (FitS n) hs fun _ _ q e => behind_fits hn q e

/-- What has been met has become more: what is new is on ways from stops of S, and all behind it has been met. -/
structure Went (n : NetL) (S : Stop → Prop) (vs vs' : List Stop) : Prop where
  sub : ∀ x ∈ vs, x ∈ vs'
  new : ∀ x ∈ vs', x ∈ vs ∨ S x
  shut : ∀ x ∈ vs', x ∉ vs → ∀ y ∈ behindL n x, y ∈ vs'

theorem Went.refl (n : NetL) (S : Stop → Prop) (vs : List Stop) : Went n S vs vs := ⟨fun _ h => h, fun _ h => .inl h, fun x h k => absurd h k⟩

theorem Went.trans {n : NetL} {S T : Stop → Prop} {vs us ws : List Stop} (h : Went n S vs us) (g : Went n T us ws) (hT : ∀ x, T x → S x) : Went n S vs ws where
  sub := fun x hx => g.sub x (h.sub x hx)
  new := fun x hx => by
    rcases g.new x hx with k | k
    · exact h.new x k
    · exact .inr (hT x k)
  shut := fun x hx hn y hy => by
    by_cases k : x ∈ us
    · exact g.sub y (h.shut x k hn y hy)
    · exact g.shut x hx k y hy

/-- One stop, and what is behind it. -/
theorem Went.stop {n : NetL} {s : Stop} {vs us : List Stop} (h : Went n (OnWay n s) (vs ++ [s]) us) (hall : ∀ y ∈ behindL n s, y ∈ us) : Went n (OnWay n s) vs us where
  sub := fun x hx => h.sub x (by simp [hx])
  new := fun x hx => by
    rcases h.new x hx with k | k
    · rcases List.mem_append.1 k with k | k
      · exact .inl k
      · have : x = s := by simpa using k
        subst this
        exact .inr (OnWay.here _ _)
    · exact .inr k
  shut := fun x hx hn y hy => by
    by_cases e : x = s
    · subst e; exact hall y hy
    · exact h.shut x hx (by simp [hn, e]) y hy

/-- From nothing: all that is on ways from a stop. -/
theorem Went.all {n : NetL} {s : Stop} {us : List Stop} (h : Went n (OnWay n s) [] us) (hs : s ∈ us) (x : Stop) : x ∈ us ↔ OnWay n s x := by
  constructor
  · intro hx
    rcases h.new x hx with k | k
    · cases k
    · exact k
  · exact fun hx => hx (fun y => y ∈ us) hs fun a b ha hb => h.shut a ha (by simp) b hb

/-- All stops of a net. -/
def allS (n : NetL) : List Stop := ((List.range n.places.toNat).map fun j => (false, j)) ++ (List.range n.trans.length).map fun j => (true, j)
theorem mem_allS {n : NetL} {s : Stop} : s ∈ allS n ↔ FitS n s := by
  obtain ⟨b, k⟩ := s
  cases b <;> simp [allS, FitS]
theorem allS_length {n : NetL} (h : 0 ≤ n.places) : ((allS n).length : Int) = n.places + n.trans.length := by
  simp only [allS, List.length_append, List.length_map, List.length_range]
  omega

theorem nodup_le : ∀ {l1 l2 : List Stop}, l1.Nodup → (∀ x ∈ l1, x ∈ l2) → l1.length ≤ l2.length := by
  intro l1
  induction l1 with
  | nil => intro l2 _ _; simp
  | cons a r ih =>
    intro l2 hn hs
    obtain ⟨h1, h2⟩ := List.nodup_cons.1 hn
    have ha : a ∈ l2 := hs a (by simp)
    have := ih (l2 := l2.erase a) h2 fun x hx => by
      have hne : x ≠ a := fun e => h1 (e ▸ hx)
      exact (List.mem_erase_of_ne hne).2 (hs x (by simp [hx]))
    rw [List.length_erase_of_mem ha] at this
    have := List.length_pos_of_mem ha
    simp only [List.length_cons]
    omega

theorem nodup_full {l1 l2 : List Stop} (hn : l1.Nodup) (hs : ∀ x ∈ l1, x ∈ l2) (hl : l1.length = l2.length) : ∀ x ∈ l2, x ∈ l1 := by
  intro x hx
  apply Classical.byContradiction
  intro hno
  have := nodup_le (l1 := x :: l1) (l2 := l2) (List.nodup_cons.2 ⟨hno, hn⟩) fun y hy => by
    rcases List.mem_cons.1 hy with rfl | hy
    · exact hx
    · exact hs y hy
  simp only [List.length_cons] at this
  omega

theorem allS_nodup (n : NetL) : (allS n).Nodup := by
  unfold allS
  have inj : ∀ b : Bool, ∀ l : List Nat, l.Nodup → (l.map fun j => (b, j)).Nodup := by
    intro b l h
    rw [List.nodup_iff_pairwise_ne] at h
    simp only [List.nodup_iff_pairwise_ne, List.pairwise_map, ne_eq, Prod.mk.injEq, true_and]
    exact h
  rw [List.nodup_append]
  refine ⟨inj _ _ List.nodup_range, inj _ _ List.nodup_range, ?_⟩
  intro a ha b hb e
  subst e
  simp only [List.mem_map] at ha hb
  obtain ⟨_, _, rfl⟩ := ha
  obtain ⟨_, _, e⟩ := hb
  injection e with e _
  cases e

/-- As many were met as there are: all were. -/
theorem met_all {n : NetL} (hn : netOk n = true) {s : Stop} (hs : FitS n s) {us : List Stop} (hd : us.Nodup) (hm : ∀ x, x ∈ us ↔ OnWay n s x) :
    ((us.length : Int) = n.places + n.trans.length) ↔ ∀ x, FitS n x → OnWay n s x := by
  have hl := allS_length (head_of hn).1
  constructor
  · intro e x hx
    refine (hm x).1 (nodup_full hd (fun y hy => mem_allS.2 ((hm y).1 hy |>.fits hn hs)) (by omega) x (mem_allS.2 hx))
  · intro h
    have h1 := nodup_le hd fun y hy => mem_allS.2 (((hm y).1 hy).fits hn hs)
    have h2 := nodup_le (allS_nodup n) fun y hy => (hm y).2 (h y (mem_allS.1 hy))
    omega

theorem nth_in {xs : List Int} {p : Nat} (h : nth xs p ≠ 0) : p < xs.length := by
  rcases Nat.lt_or_ge p xs.length with h1 | h1
  · exact h1
  · exact absurd (nth_past _ _ h1) h

/-- Ways by stops are ways by places. -/
theorem onWay_place {n : NetL} (hn : netOk n = true) {f p : Nat} : OnWay n (false, f) (false, p) ↔ WayP n f p := by
  constructor
  · intro h
    have := h (fun s => if s.1 then WayT n f s.2 ∧ s.2 < n.trans.length else WayP n f s.2) (WayP.here n f) fun a b ha hb => by
      obtain ⟨ba, ka⟩ := a
      obtain ⟨bb, kb⟩ := b
      cases ba with
      | true =>
        obtain ⟨e, h2, h3⟩ := mem_somes.1 (show (bb, kb) ∈ somes false _ _ from hb)
        simp only at e
        subst e
        obtain ⟨⟨q, hq, hq2⟩, hk⟩ := ha
        have h3 : 0 < nth (tranAt n.trans ka).post kb := of_decide_eq_true h3
        exact hq.step hk hq2 (Int.ne_of_gt h3)
      | false =>
        obtain ⟨e, h2, h3⟩ := mem_somes.1 (show (bb, kb) ∈ somes true _ _ from hb)
        simp only at e
        subst e
        have h3 : 0 < nth (tranAt n.trans kb).pre ka := of_decide_eq_true h3
        exact ⟨⟨ka, ha, Int.ne_of_gt h3⟩, h2⟩
    exact this
  · intro h
    refine h (fun p => OnWay n (false, f) (false, p)) (OnWay.here _ _) fun k a b hk ha h1 h2 => ?_
    have r := tran_right (net_tran hn hk)
    have p1 := (okTok_nth r.1 a).1
    have p2 := (okTok_nth r.2 b).1
    have e1 : 0 < nth (tranAt n.trans k).pre a := by omega
    have e2 : 0 < nth (tranAt n.trans k).post b := by omega
    exact (ha.step (b := (true, k)) (mem_somes.2 ⟨rfl, hk, decide_eq_true e1⟩)).step (mem_somes.2 ⟨rfl, nth_in h2, decide_eq_true e2⟩)

theorem onWay_tran {n : NetL} (hn : netOk n = true) {f k : Nat} (hk : k < n.trans.length) : OnWay n (false, f) (true, k) ↔ WayT n f k := by
  constructor
  · intro h
    have := h (fun s => if s.1 then WayT n f s.2 ∧ s.2 < n.trans.length else OnWay n (false, f) (false, s.2)) (OnWay.here _ _) fun a b ha hb => by
      obtain ⟨ba, ka⟩ := a
      obtain ⟨bb, kb⟩ := b
      cases ba with
      | true =>
        obtain ⟨e, h2, h3⟩ := mem_somes.1 (show (bb, kb) ∈ somes false _ _ from hb)
        simp only at e
        subst e
        obtain ⟨⟨q, hq, hq2⟩, hk2⟩ := ha
        have h3 : 0 < nth (tranAt n.trans ka).post kb := of_decide_eq_true h3
        exact (onWay_place hn).2 (hq.step hk2 hq2 (Int.ne_of_gt h3))
      | false =>
        obtain ⟨e, h2, h3⟩ := mem_somes.1 (show (bb, kb) ∈ somes true _ _ from hb)
        simp only at e
        subst e
        have h3 : 0 < nth (tranAt n.trans kb).pre ka := of_decide_eq_true h3
        exact ⟨⟨ka, (onWay_place hn).1 ha, Int.ne_of_gt h3⟩, h2⟩
    exact this.1
  · rintro ⟨p, hp, h1⟩
    have r := tran_right (net_tran hn hk)
    have p1 := (okTok_nth r.1 p).1
    have e1 : 0 < nth (tranAt n.trans k).pre p := by omega
    exact ((onWay_place hn).2 hp).step (mem_somes.2 ⟨rfl, hk, decide_eq_true e1⟩)

theorem onWay_all {n : NetL} (hn : netOk n = true) {f : Nat} : (∀ x, FitS n x → OnWay n (false, f) x) ↔ (∀ p : Nat, (p : Int) < n.places → WayP n f p) ∧ ∀ k, k < n.trans.length → WayT n f k := by
  constructor
  · intro h
    exact ⟨fun p hp => (onWay_place hn).1 (h (false, p) hp), fun k hk => (onWay_tran hn hk).1 (h (true, k) hk)⟩
  · rintro ⟨h1, h2⟩ ⟨b, k⟩ hx
    cases b with
    | true => exact (onWay_tran hn hx).2 (h2 k hx)
    | false => exact (onWay_place hn).2 (h1 k hx)

end Go.Proofs.Ytfgimobmaahmmaa
