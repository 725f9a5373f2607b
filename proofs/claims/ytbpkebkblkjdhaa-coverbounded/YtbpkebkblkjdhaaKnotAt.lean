/- A tree while it is built: where it lies, and what it hangs on. -/
import Derived.Test.YtbpkebkblkjdhaaKnotMem
namespace Go.Proofs.Ytbpkebkblkjdhaa
open Go.RowKit
set_option linter.unusedVariables false

def valAt (l : List Value) (j : Nat) : Value := l.getD j undef
theorem valAt_append {l r : List Value} {k : Nat} (h : k < l.length) : valAt (l ++ r) k = valAt l k := by
  rw [valAt, valAt, List.getD_eq_getElem?_getD, List.getD_eq_getElem?_getD, List.getElem?_append_left h]
theorem valAt_last (l : List Value) (x : Value) : valAt (l ++ [x]) l.length = x := by
  rw [valAt, List.getD_eq_getElem?_getD, List.getElem?_append_right (Nat.le_refl _)]; simp
theorem valAt_get {l : List Value} {k : Nat} (h : k < l.length) : l[k]? = some (valAt l k) := by
  rw [valAt, List.getD_eq_getElem?_getD, List.getElem?_eq_getElem h]; rfl
def valsAt (l : List (List Value)) (j : Nat) : List Value := l.getD j []
theorem valsAt_append {l r : List (List Value)} {k : Nat} (h : k < l.length) : valsAt (l ++ r) k = valsAt l k := by
  rw [valsAt, valsAt, List.getD_eq_getElem?_getD, List.getD_eq_getElem?_getD, List.getElem?_append_left h]
theorem valsAt_last (l : List (List Value)) (x : List Value) : valsAt (l ++ [x]) l.length = x := by
  rw [valsAt, List.getD_eq_getElem?_getD, List.getElem?_append_right (Nat.le_refl _)]; simp

/-- Three cells each. -/
def triTo (f g h : Nat → Value) : Nat → List Value
  | 0 => []
  | n + 1 => triTo f g h n ++ [f n, g n, h n]
theorem triTo_length (f g h : Nat → Value) : ∀ n, (triTo f g h n).length = n * 3
  | 0 => rfl
  | n + 1 => by rw [triTo, List.length_append, triTo_length f g h n]; simp; omega
theorem triTo_congr {f g h f' g' h' : Nat → Value} : ∀ {n : Nat}, (∀ j, j < n → f j = f' j ∧ g j = g' j ∧ h j = h' j) → triTo f g h n = triTo f' g' h' n
  | 0, _ => rfl
  | n + 1, e => by
    obtain ⟨e1, e2, e3⟩ := e n (by omega)
    rw [triTo, triTo, triTo_congr fun j hj => e j (by omega), e1, e2, e3]
theorem triTo_at (f g h : Nat → Value) : ∀ {n j : Nat}, j < n → (triTo f g h n)[j * 3]? = some (f j) ∧ (triTo f g h n)[j * 3 + 1]? = some (g j) ∧ (triTo f g h n)[j * 3 + 2]? = some (h j)
  | 0, j, hj => by omega
  | n + 1, j, hj => by
    have hl := triTo_length f g h n
    rw [triTo]
    by_cases e : j < n
    · obtain ⟨q1, q2, q3⟩ := triTo_at f g h e
      rw [List.getElem?_append_left (by omega), List.getElem?_append_left (by omega), List.getElem?_append_left (by omega)]
      exact ⟨q1, q2, q3⟩
    · have e : j = n := by omega
      subst e
      rw [List.getElem?_append_right (by omega), List.getElem?_append_right (by omega), List.getElem?_append_right (by omega), hl]
      have k1 : j * 3 - j * 3 = 0 := by omega
      have k2 : j * 3 + 1 - j * 3 = 1 := by omega
      have k3 : j * 3 + 2 - j * 3 = 2 := by omega
      rw [k1, k2, k3]
      exact ⟨rfl, rfl, rfl⟩

def knotCells (s : List KnotX) (ms : List Value) : List Value := triTo (fun j => .int .i64 (knotAt s j).up) (fun j => .int .i64 (knotAt s j).tran) (valAt ms) s.length
theorem knotCells_append (s : List KnotX) (ms : List Value) (x : KnotX) (v : Value) (hl : ms.length = s.length) : knotCells (s ++ [x]) (ms ++ [v]) = knotCells s ms ++ [.int .i64 x.up, .int .i64 x.tran, v] := by
  unfold knotCells
  rw [List.length_append]
  show triTo _ _ _ (s.length + 1) = _
  rw [triTo, knotAt_last]
  rw [triTo_congr (f' := fun j => .int .i64 (knotAt s j).up) (g' := fun j => .int .i64 (knotAt s j).tran) (h' := valAt ms) (fun j hj => by rw [knotAt_append hj, valAt_append (by omega)]; exact ⟨rfl, rfl, rfl⟩)]
  rw [← hl, valAt_last]

/-- A slice of these slices, whose elements are these values. -/
def ListsV (w : World) (v : Value) (us : List Value) (ls : List (List Int)) : Prop :=
  ∃ a len cap, v = .slice a len cap ∧ us.length = len ∧ ls.length = len ∧ Shape a len cap ∧
    ∀ j, j < len → ∃ b off, a = some ⟨b, off, none⟩ ∧ b < w.heap.size ∧ w.cell? ⟨b, off + j, none⟩ = some (valAt us j) ∧ (valAt us j).oneCell' = true ∧ Ints w (valAt us j) (markAt ls j)
theorem ListsV.lists {w : World} {v : Value} {us : List Value} {ls : List (List Int)} (h : ListsV w v us ls) (hl : ls.length ≤ 5864062014805) : Lists w v ls := by
  obtain ⟨a, len, cap, e, h1, h2, h3, h4⟩ := h
  refine ⟨a, len, cap, e, h2, by omega, h3, fun j hj => ?_⟩
  obtain ⟨b, off, q1, q2, q3, _, q4⟩ := h4 j (by omega)
  exact ⟨b, off, valAt us j, q1, q2, q3, q4⟩
theorem ListsV.nil (w : World) : ListsV w (.slice none 0 0) [] [] := ⟨none, 0, 0, rfl, rfl, rfl, ⟨by omega, by omega, fun _ => rfl⟩, fun j hj => absurd hj (by omega)⟩

/-- Apart from both rows. -/
def Off (ov lv : Value) (b : Nat) : Prop := ov.ownBlock ≠ some b ∧ lv.ownBlock ≠ some b

/-- The tree s lies in the row ov, the lines in the row lv; both are the call's own; what their elements say hangs on none of them. -/
structure TreeAt (B : Nat) (W wr : World) (s : List KnotX) (ov lv : Value) (ms ls : List Value) (uss : List (List Value)) : Prop where
  rowO : wr.ownsRow B 39 3 ov s.length (knotCells s ms)
  rowL : wr.ownsRow B 44 1 lv s.length ls
  below : Below B W wr
  size : B ≤ wr.heap.size
  apart : ∀ k, ov.ownBlock = some k → lv.ownBlock ≠ some k
  lenM : ms.length = s.length
  lenL : ls.length = s.length
  lenU : uss.length = s.length
  elM : ∀ j, j < s.length → (valAt ms j).oneCell' = true ∧ On (Off ov lv) wr (fun w' => Ints w' (valAt ms j) (knotAt s j).mark)
  elL : ∀ j, j < s.length → (valAt ls j).oneCell' = true ∧ On (Off ov lv) wr (fun w' => ListsV w' (valAt ls j) (valsAt uss j) (knotAt s j).line)

theorem TreeAt.to {B : Nat} {W wr w' : World} {s : List KnotX} {ov lv : Value} {ms ls : List Value} {uss : List (List Value)} (h : TreeAt B W wr s ov lv ms ls uss) (hb : Below wr.heap.size wr w') : TreeAt B W w' s ov lv ms ls uss :=
  { h with
    rowO := ((ownsRow_on h.rowO).below hb).now
    rowL := ((ownsRow_on h.rowL).below hb).now
    below := h.below.trans (hb.mono h.size)
    size := Nat.le_trans h.size hb.size
    elM := fun j hj => ⟨(h.elM j hj).1, (h.elM j hj).2.below hb⟩
    elL := fun j hj => ⟨(h.elL j hj).1, (h.elL j hj).2.below hb⟩ }

theorem TreeAt.ltO {B : Nat} {W wr : World} {s : List KnotX} {ov lv : Value} {ms ls : List Value} {uss : List (List Value)} (h : TreeAt B W wr s ov lv ms ls uss) {k : Nat} (hk : ov.ownBlock = some k) : B ≤ k ∧ k < wr.heap.size := ownsRow_lt h.rowO hk
theorem TreeAt.ltL {B : Nat} {W wr : World} {s : List KnotX} {ov lv : Value} {ms ls : List Value} {uss : List (List Value)} (h : TreeAt B W wr s ov lv ms ls uss) {k : Nat} (hk : lv.ownBlock = some k) : B ≤ k ∧ k < wr.heap.size := ownsRow_lt h.rowL hk

/-- Where its cells lie. -/
theorem TreeAt.cells {B : Nat} {W wr : World} {s : List KnotX} {ov lv : Value} {ms ls : List Value} {uss : List (List Value)} (h : TreeAt B W wr s ov lv ms ls uss) {k : Nat} (hk : k < s.length) :
    ∃ go co gl cl, ov = .slice (some ⟨go, 0, none⟩) s.length co ∧ lv = .slice (some ⟨gl, 0, none⟩) s.length cl ∧ go < wr.heap.size ∧ gl < wr.heap.size ∧
      wr.cell? ⟨go, k * 3 + 2, none⟩ = some (valAt ms k) ∧ wr.cell? ⟨gl, k, none⟩ = some (valAt ls k) := by
  rcases h.rowO.2 with ⟨_, h0⟩ | ⟨go, co, cur, e1, _⟩
  · omega
  · rcases h.rowL.2 with ⟨_, h0⟩ | ⟨gl, cl, cur2, e2, _⟩
    · omega
    · have ho := h.rowO
      have hl := h.rowL
      have hb1 := (h.ltO (k := go) (by rw [e1]; rfl)).2
      have hb2 := (h.ltL (k := gl) (by rw [e2]; rfl)).2
      rw [e1] at ho
      rw [e2] at hl
      refine ⟨go, co, gl, cl, e1, e2, hb1, hb2, ?_, ?_⟩
      · rw [ho.cellAt (k * 3 + 2) (by omega)]
        exact (triTo_at _ _ _ hk).2.2
      · rw [hl.cellAt k (by omega)]
        exact valAt_get (by rw [h.lenL]; exact hk)

theorem TreeAt.sliceO {B : Nat} {W wr : World} {s : List KnotX} {ov lv : Value} {ms ls : List Value} {uss : List (List Value)} (h : TreeAt B W wr s ov lv ms ls uss) : ∃ a c, ov = .slice a s.length c := by
  rcases h.rowO.2 with ⟨e, h0⟩ | ⟨g, cap', cur, e, _⟩
  · exact ⟨none, 0, by rw [e, h0]⟩
  · exact ⟨_, _, e⟩

/-- The row of lines, once the other one has grown. -/
theorem TreeAt.rowL_after {B : Nat} {W wr wC : World} {s : List KnotX} {ov lv : Value} {ms ls : List Value} {uss : List (List Value)} (h : TreeAt B W wr s ov lv ms ls uss) (hg : wr.grownBy wC ov.ownBlock) : wC.ownsRow B 44 1 lv s.length ls :=
  ((ownsRow_on h.rowL).grown hg fun k _ hk e => h.apart k e.symm hk.1).now

theorem TreeAt.turn {B : Nat} {W wr wC wC1 wD : World} {s : List KnotX} {ov lv ov' lv' : Value} {ms ls : List Value} {uss : List (List Value)} (h : TreeAt B W wr s ov lv ms ls uss)
    (hgO : wr.grownBy wC ov.ownBlock) (hatO : ov'.ownBlock = ov.ownBlock ∨ ov'.ownBlock = some wr.heap.size) (hb : Below wC.heap.size wC wC1)
    (hgL : wC1.grownBy wD lv.ownBlock) (hatL : lv'.ownBlock = lv.ownBlock ∨ lv'.ownBlock = some wC1.heap.size) {R : World → Prop} (hR : On (Off ov lv) wr R) : On (Off ov' lv') wD R := by
  have s1 := hgO.size
  have s2 := hb.size
  have s3 := hgL.size
  intro w2 hs2 hk2
  refine hR w2 (by omega) fun k hlt ⟨q1, q2⟩ => ?_
  have q3 : Off ov' lv' k := by
    constructor
    · rcases hatO with e | e <;> rw [e]
      · exact q1
      · intro e2; injection e2 with e2; omega
    · rcases hatL with e | e <;> rw [e]
      · exact q2
      · intro e2; injection e2 with e2; omega
  rw [hk2 k (by omega) q3, hgL.block k (by omega) (fun e => q2 e.symm), hb.block k (by omega)]
  exact hgO.block k hlt (fun e => q1 e.symm)

/-- One more knot. -/
theorem TreeAt.grow {B : Nat} {W wr wC wC1 wD : World} {s : List KnotX} {ov lv ov' lv' : Value} {ms ls us : List Value} {uss : List (List Value)} (h : TreeAt B W wr s ov lv ms ls uss) (x : KnotX) (xv mv : Value)
    (h1 : xv.oneCell' = true) (hx : On (Off ov lv) wr (fun w' => Ints w' xv x.mark)) (h2 : mv.oneCell' = true) (hm : On (Off ov lv) wr (fun w' => ListsV w' mv us x.line))
    (hownO : wC.ownsRow B 39 3 ov' (s.length + 1) (knotCells s ms ++ [.int .i64 x.up, .int .i64 x.tran, xv])) (hgO : wr.grownBy wC ov.ownBlock) (hatO : ov'.ownBlock = ov.ownBlock ∨ ov'.ownBlock = some wr.heap.size)
    (hb : Below wC.heap.size wC wC1)
    (hownL : wD.ownsRow B 44 1 lv' (ls.length + 1) (ls ++ [mv])) (hgL : wC1.grownBy wD lv.ownBlock) (hatL : lv'.ownBlock = lv.ownBlock ∨ lv'.ownBlock = some wC1.heap.size) :
    TreeAt B W wD (s ++ [x]) ov' lv' (ms ++ [xv]) (ls ++ [mv]) (uss ++ [us]) := by
  have s1 := hgO.size
  have s2 := hb.size
  have s3 := hgL.size
  have keep := fun {R : World → Prop} (hR : On (Off ov lv) wr R) => h.turn hgO hatO hb hgL hatL hR
  have hl : (s ++ [x]).length = s.length + 1 := by simp
  have hO' : ∀ k, ov'.ownBlock = some k → B ≤ k ∧ k < wC.heap.size := fun k hk => ownsRow_lt hownO hk
  have apO : ∀ k, ov'.ownBlock = some k → lv.ownBlock ≠ some k := by
    intro k hk
    rcases hatO with e | e
    · exact h.apart k (by rw [← e]; exact hk)
    · intro e2; rw [e] at hk; injection hk with hk; have := (h.ltL e2).2; omega
  refine ⟨?_, ?_, ?_, by have := h.size; omega, ?_, by simp [h.lenM], by simp [h.lenL], by simp [h.lenU], fun j hj => ?_, fun j hj => ?_⟩
  · rw [knotCells_append s ms x xv h.lenM, hl]
    exact (((ownsRow_on hownO).below hb).grown hgL fun k _ hk e => apO k hk.1 e.symm).now
  · rw [hl, ← h.lenL]; exact hownL
  · have b1 := h.below.grown hgO h.size (fun k hk => (h.ltO hk).1)
    have b2 := b1.trans (hb.mono (by have := h.size; omega))
    exact b2.grown hgL (by have := h.size; omega) (fun k hk => (h.ltL hk).1)
  · intro k hk
    rcases hatL with e | e
    · rw [e]; exact apO k hk
    · rw [e]; intro e2; injection e2 with e2; have := (hO' k hk).2; omega
  · by_cases hjl : j < s.length
    · rw [knotAt_append hjl, valAt_append (by rw [h.lenM]; exact hjl)]
      exact ⟨(h.elM j hjl).1, keep (h.elM j hjl).2⟩
    · have e : j = s.length := by omega
      subst e
      rw [knotAt_last]
      have ev : valAt (ms ++ [xv]) s.length = xv := by rw [← h.lenM]; exact valAt_last ms xv
      rw [ev]
      exact ⟨h1, keep hx⟩
  · by_cases hjl : j < s.length
    · rw [knotAt_append hjl, valAt_append (by rw [h.lenL]; exact hjl), valsAt_append (by rw [h.lenU]; exact hjl)]
      exact ⟨(h.elL j hjl).1, keep (h.elL j hjl).2⟩
    · have e : j = s.length := by omega
      subst e
      rw [knotAt_last]
      have ev : valAt (ls ++ [mv]) s.length = mv := by rw [← h.lenL]; exact valAt_last ls mv
      have eu : valsAt (uss ++ [us]) s.length = us := by rw [← h.lenU]; exact valsAt_last uss us
      rw [ev, eu]
      exact ⟨h2, keep hm⟩

/-- The tree, read. -/
theorem TreeAt.knots {B : Nat} {W wr : World} {s : List KnotX} {ov lv : Value} {ms ls : List Value} {uss : List (List Value)} (h : TreeAt B W wr s ov lv ms ls uss) (hl : s.length ≤ 300) : Knots wr ov (s.map KnotX.knot) := by
  rcases h.rowO.2 with ⟨e, h0⟩ | ⟨g, cap, cur, e, hg, hh, hn, hcap, _⟩
  · exact ⟨none, 0, 0, e, by simp [h0], by omega, ⟨by omega, by omega, fun _ => rfl⟩, fun j hj => absurd hj (by simp [h0])⟩
  · refine ⟨_, s.length, _, e, by simp, by omega, ⟨hn, by unfold maxLen at hcap; omega, fun h => by cases h⟩, fun j hj => ?_⟩
    have hj' : j < s.length := by simpa using hj
    have ho := h.rowO
    rw [e] at ho
    obtain ⟨q1, q2, q3⟩ := triTo_at (fun j => .int .i64 (knotAt s j).up) (fun j => .int .i64 (knotAt s j).tran) (valAt ms) hj'
    refine ⟨g, 0, valAt ms j, rfl, (h.ltO (k := g) (by rw [e]; rfl)).2, ?_, ?_, ?_, ?_⟩
    · rw [Nat.zero_add, ho.cellAt (j * 3) (by omega), knotOf_map hj']; exact q1
    · rw [Nat.zero_add, ho.cellAt (j * 3 + 1) (by omega), knotOf_map hj']; exact q2
    · rw [Nat.zero_add, ho.cellAt (j * 3 + 2) (by omega)]; exact q3
    · rw [knotOf_map hj']; exact (h.elM j hj').2.now

theorem info_knot : (Try.prog.info? 39).map (fun i => (i.zero, i.size, i.bytes)) = some (some (.agg #[.int .i64 0, .int .i64 0, .slice none 0 0]), 3, 40) := by kernel_rfl

theorem wp_append_knot {ops : Array Oper} {rest : List Oper} {o : Oper} {a : Act} {Q : Exit → Act → World → Prop} (hgd : o.guard = none) (s x : Operand)
    (ho : o.op = .call { callee := .builtin .append, args := #[s, x], argTypes := #[26, 26] }) (B : Nat) (wr : World) (v : Value) (n : Nat) (cs : List Value) (f t : Int) (ax : Option Addr) (lx cx : Nat)
    (hown : wr.ownsRow B 39 3 v n cs) (hs : a.eval s = v) (hx : a.eval x = .slice (some ⟨wr.heap.size, 0, none⟩) 1 1) (hl : n + 1 ≤ 2513169434916) (hB : B ≤ wr.heap.size)
    (h : ∀ v' w', w'.ownsRow B 39 3 v' (n + 1) (cs ++ [.int .i64 f, .int .i64 t, .slice ax lx cx]) → (wr.alloc (.cells #[.int .i64 f, .int .i64 t, .slice ax lx cx] 39)).grownBy w' v.ownBlock →
      (v'.ownBlock = v.ownBlock ∨ v'.ownBlock = some (wr.alloc (.cells #[.int .i64 f, .int .i64 t, .slice ax lx cx] 39)).heap.size) → wpList Try.prog ops Q rest (a.put o.dst v') w') :
    wpList Try.prog ops Q (o :: rest) a (wr.alloc (.cells #[.int .i64 f, .int .i64 t, .slice ax lx cx] 39)) := by
  obtain ⟨i0, hi, hz0, hz1, hz2⟩ := info_parts info_knot
  refine wpList_append_own_at _ hgd s x 26 ho B 39 i0 _ 3 40 Try.underlying26 hi hz0 hz1 hz2 rfl (by decide) v n _ hs (hown.alloc _) ⟨wr.heap.size, 0, none⟩ 1 1 [.int .i64 f, .int .i64 t, .slice ax lx cx] hx rfl ?_ ?_ ?_ ?_ ?_ ?_
  · intro j u hj
    rw [addr_add, World.cell?_alloc_at _ _ _ _ rfl]
    match j, hj with
    | 0, hj => simpa using hj
    | 1, hj => simpa using hj
    | 2, hj => simpa using hj
  · intro u hu
    simp only [List.mem_cons, List.not_mem_nil, or_false] at hu
    rcases hu with rfl | rfl | rfl <;> rfl
  · unfold maxLen; omega
  · omega
  · simp; omega
  · intro v' w' h1 h2 _ h3
    exact h v' w' h1 h2 h3

end Go.Proofs.Ytbpkebkblkjdhaa
