/- Knots whose marks lie in rows of their own: something may be appended to each. -/
import Derived.Test.YtbpkebkblkjdhaaCoverBd1
import Derived.Test.YtbpkebkblkjdhaaKnotAt
namespace Go.Proofs.Ytbpkebkblkjdhaa
open Go.RowKit
set_option linter.unusedVariables false

def cellsOf (l : List KnotL) (ms : List Value) : List Value := triTo (fun j => .int .i64 (knotOf l j).up) (fun j => .int .i64 (knotOf l j).tran) (valAt ms) l.length

/-- From knot k on, each mark lies in a row of its own, apart from the knots' row; all these rows were made from B on. -/
structure KnotsOwn (B : Nat) (w : World) (v : Value) (l : List KnotL) (ms : List Value) (k : Nat) : Prop where
  room : l.length ≤ 300
  row : w.ownsRow B 39 3 v l.length (cellsOf l ms)
  size : B ≤ w.heap.size
  marks : ∀ j, k ≤ j → j < l.length → (knotOf l j).mark.length ≤ 16 ∧ w.ownsRow B 3 1 (valAt ms j) (knotOf l j).mark.length ((knotOf l j).mark.map (Value.int .i64))
  apart : ∀ j, k ≤ j → j < l.length → ∀ b, (valAt ms j).ownBlock = some b → v.ownBlock ≠ some b ∧ ∀ i, i < l.length → i ≠ j → (valAt ms i).ownBlock ≠ some b

theorem KnotsOwn.to {B : Nat} {w w' : World} {v : Value} {l : List KnotL} {ms : List Value} {k : Nat} (h : KnotsOwn B w v l ms k) (hb : Below w.heap.size w w') : KnotsOwn B w' v l ms k :=
  { h with
    row := ((ownsRow_on h.row).below hb).now
    size := Nat.le_trans h.size hb.size
    marks := fun j h1 h2 => ⟨(h.marks j h1 h2).1, ((ownsRow_on (h.marks j h1 h2).2).below hb).now⟩ }

/-- Something was appended to mark k. -/
theorem KnotsOwn.next {B : Nat} {w w' : World} {v : Value} {l : List KnotL} {ms : List Value} {k : Nat} (h : KnotsOwn B w v l ms k) (hk : k < l.length) (hs : w.heap.size ≤ w'.heap.size)
    (hb : ∀ b, b < w.heap.size → (valAt ms k).ownBlock ≠ some b → w'.heap[b]? = w.heap[b]?) : KnotsOwn B w' v l ms (k + 1) where
  room := h.room
  row := ((ownsRow_on h.row).to hs fun b hlt hd => hb b hlt (fun e => (h.apart k (Nat.le_refl _) hk b e).1 hd.1)).now
  size := Nat.le_trans h.size hs
  marks := fun j h1 h2 => ⟨(h.marks j (by omega) h2).1, ((ownsRow_on (h.marks j (by omega) h2).2).to hs fun b hlt hd => hb b hlt (fun e => (h.apart k (Nat.le_refl _) hk b e).2 j h2 (by omega) hd.1)).now⟩
  apart := fun j h1 h2 => h.apart j (by omega) h2

theorem KnotsOwn.knots {B : Nat} {w : World} {v : Value} {l : List KnotL} {ms : List Value} (h : KnotsOwn B w v l ms 0) : Knots w v l := by
  have hroom := h.room
  rcases h.row.2 with ⟨e, h0⟩ | ⟨g, cap, cur, e, hg, hh, hn, hcap, _⟩
  · exact ⟨none, 0, 0, e, h0, by omega, ⟨by omega, by omega, fun _ => rfl⟩, fun j hj => absurd hj (by omega)⟩
  · refine ⟨_, l.length, _, e, rfl, by omega, ⟨hn, by unfold maxLen at hcap; omega, fun h => by cases h⟩, fun j hj => ?_⟩
    have ho := h.row
    rw [e] at ho
    obtain ⟨q1, q2, q3⟩ := triTo_at (fun j => .int .i64 (knotOf l j).up) (fun j => .int .i64 (knotOf l j).tran) (valAt ms) hj
    obtain ⟨m1, m2⟩ := h.marks j (Nat.zero_le _) hj
    have m3 : w.ownsRow B 3 1 (valAt ms j) (knotOf l j).mark.length ((knotOf l j).mark.map (Value.int .i64)) := m2
    refine ⟨g, 0, valAt ms j, rfl, (Array.getElem?_eq_some_iff.1 hh).1, ?_, ?_, ?_, ownsRow_ints m3 (by omega)⟩
    · rw [Nat.zero_add, ho.cellAt (j * 3) (by omega)]; exact q1
    · rw [Nat.zero_add, ho.cellAt (j * 3 + 1) (by omega)]; exact q2
    · rw [Nat.zero_add, ho.cellAt (j * 3 + 2) (by omega)]; exact q3

theorem KnotsOwn.cells {B : Nat} {w : World} {v : Value} {l : List KnotL} {ms : List Value} {i : Nat} (h : KnotsOwn B w v l ms i) {k : Nat} (hk : k < l.length) :
    ∃ g cap, v = .slice (some ⟨g, 0, none⟩) l.length cap ∧ w.cell? ⟨g, k * 3, none⟩ = some (.int .i64 (knotOf l k).up) ∧ w.cell? ⟨g, k * 3 + 1, none⟩ = some (.int .i64 (knotOf l k).tran) ∧ w.cell? ⟨g, k * 3 + 2, none⟩ = some (valAt ms k) := by
  rcases h.row.2 with ⟨e, h0⟩ | ⟨g, cap, cur, e, _⟩
  · omega
  · have ho := h.row
    rw [e] at ho
    obtain ⟨q1, q2, q3⟩ := triTo_at (fun j => .int .i64 (knotOf l j).up) (fun j => .int .i64 (knotOf l j).tran) (valAt ms) hk
    exact ⟨g, cap, e, by rw [ho.cellAt (k * 3) (by omega)]; exact q1, by rw [ho.cellAt (k * 3 + 1) (by omega)]; exact q2, by rw [ho.cellAt (k * 3 + 2) (by omega)]; exact q3⟩

/-- append of one number onto a row that the call did not make itself, but that was made from B on: what else it leaves. -/
theorem wp_append_grow {ops : Array Oper} {rest : List Oper} {o : Oper} {a : Act} {Q : Exit → Act → World → Prop} (hgd : o.guard = none) (s x : Operand)
    (ho : o.op = .call { callee := .builtin .append, args := #[s, x], argTypes := #[25, 25] }) (B : Nat) (wr : World) (v : Value) (zs : List Int) (hown : wr.ownsRow B 3 1 v zs.length (zs.map (Value.int .i64)))
    (hs : a.eval s = v) (hx : a.eval x = .slice (some ⟨wr.heap.size, 0, none⟩) 1 1) (hl : zs.length + 1 ≤ 17592186044416) (hB : B ≤ wr.heap.size)
    (h : ∀ v' w', w'.ownsRow B 3 1 v' (zs.length + 1) (zs.map (Value.int .i64) ++ [.int .i64 0]) → (wr.alloc (.cells #[.int .i64 0] 3)).grownBy w' v.ownBlock → wpList Try.prog ops Q rest (a.put o.dst v') w') :
    wpList Try.prog ops Q (o :: rest) a (wr.alloc (.cells #[.int .i64 0] 3)) := by
  obtain ⟨i0, hi, hz0, hz1, hz2⟩ := info_parts info_int
  refine wpList_append_own_at _ hgd s x 25 ho B 3 i0 _ 1 8 Try.underlying25 hi hz0 hz1 hz2 rfl (by decide) v zs.length _ hs (hown.alloc _) ⟨wr.heap.size, 0, none⟩ 1 1 [.int .i64 0] hx rfl ?_ ?_ ?_ ?_ ?_ ?_
  · intro j u hj
    match j, hj with
    | 0, hj => simp at hj; subst hj; simp [Addr.add]
  · intro u hu; simp at hu; subst hu; rfl
  · unfold maxLen; omega
  · omega
  · simp; omega
  · intro v' w' h1 h2 _ _
    exact h v' w' h1 h2

def overK (k : KnotL) : Bool := decide (1000000 < maxL (k.mark ++ [0]))

set_option maxHeartbeats 1000000 in
theorem bounded2_any (B : Nat) (u : Value) (x : KnotL) (w : World) (hl : x.mark.length ≤ 16) (hB : B ≤ w.heap.size) (hown : w.ownsRow B 3 1 u x.mark.length (x.mark.map (Value.int .i64))) :
    Calls Try.prog 21 #[.agg #[.int .i64 x.up, .int .i64 x.tran, u]] w fun e w' => e = .returned (.bool (overK x)) ∧ Below B w w' ∧ w.heap.size ≤ w'.heap.size ∧ ∀ b, b < w.heap.size → u.ownBlock ≠ some b → w'.heap[b]? = w.heap[b]? := by
  have b1 := below_new w (.cells #[.int .i64 x.up, .int .i64 x.tran, u] 39)
  have hown1 := ((ownsRow_on hown).below b1).now
  have hbx3 := box3_new w (.int .i64 x.up) (.int .i64 x.tran) u 39
  have hB1 : B ≤ (w.alloc (.cells #[.int .i64 x.up, .int .i64 x.tran, u] 39)).heap.size := by simp; omega
  obtain ⟨au, lu, cu, rfl⟩ := ownsRow_slice hown
  obtain ⟨wt, Hwt⟩ : ∃ wt, Hid (w.alloc (.cells #[.int .i64 x.up, .int .i64 x.tran, .slice au lu cu] 39) = wt) := ⟨_, rfl⟩
  rw [Hwt.out] at b1 hown1 hbx3 hB1
  have hG : Own B wt wt (.slice au lu cu) x.mark := ⟨hown1, Below.refl _ _, hB1⟩
  go_enter Try.func21, Try.ntmps21
  go_upto_region 1 with fail
  rw [Hwt.out]
  clear Hwt
  obtain ⟨z0, z1, z2, z3⟩ := hbx3
  go_wp2_with (at_builtin; refine wp_append_grow rfl _ _ rfl B wt _ x.mark hown1 rfl rfl (by omega) hB1 ?_; intro v' w1 hO1 hg1)
  have hI : Ints w1 v' (x.mark ++ [0]) := by
    have q := hO1
    rw [show x.mark.length + 1 = (x.mark ++ [0]).length by simp, show x.mark.map (Value.int .i64) ++ [Value.int .i64 0] = (x.mark ++ [0]).map (Value.int .i64) by simp] at q
    exact ownsRow_ints q (by simp; omega)
  have s1 := hg1.size
  have R1 : Below B w w1 := by
    have q1 : Below B w wt := b1.mono hB
    have q2 := q1.trans ((below_new wt (.cells #[.int .i64 0] 3)).mono hB1)
    exact q2.grown hg1 (by simp; omega) (fun k hk => (ownsRow_lt hown1 hk).1)
  have R2 : w.heap.size ≤ w1.heap.size := by have := b1.size; simp at s1; omega
  have R3 : ∀ b, b < w.heap.size → (Value.slice au lu cu).ownBlock ≠ some b → w1.heap[b]? = w.heap[b]? := fun b hb hne => by
    have h1 := b1.size
    rw [hg1.block b (by simp; omega) (fun e => hne e.symm), (below_new wt (.cells #[.int .i64 0] 3)).block b (by omega), b1.block b hb]
  clear hG hO1 hg1 b1 hown1 hown z0 z1 z2 z3
  go_wp2_with fail
  refine (max_any _ (x.mark ++ [0]) _ (by exact hI) (by simp)).mono ?_
  rintro e w2 ⟨rfl, rfl⟩
  go_wp2
  go_ret
  exact ⟨rfl, R1, R2, R3⟩

end Go.Proofs.Ytbpkebkblkjdhaa
