/- A slice of transitions that the call itself has made. -/
import Derived.Test.YteeogdihaajicaaDoorNetBase
import Derived.Test.YteeogdihaajicaaDoorOwn
namespace Go.Proofs.YteeogdihaajicaaDoor
open Go.RowKit
set_option linter.unusedVariables false
set_option maxRecDepth 4000

/-- The cells of some transitions. -/
def tvCells (tv : List (Int × Value × Value)) : List Value := tv.flatMap fun x => [.int .i64 x.1, x.2.1, x.2.2]
theorem tvCells_length (tv : List (Int × Value × Value)) : (tvCells tv).length = tv.length * 3 := by
  unfold tvCells
  induction tv with
  | nil => rfl
  | cons x r ih => simp only [List.flatMap_cons, List.length_append, ih, List.length_cons, List.length_nil]; omega
theorem tvCells_append (tv us : List (Int × Value × Value)) : tvCells (tv ++ us) = tvCells tv ++ tvCells us := by simp [tvCells]
theorem tvCells_at (tv : List (Int × Value × Value)) (j : Nat) (h : j < tv.length) :
    (tvCells tv)[j * 3]? = some (.int .i64 tv[j].1) ∧ (tvCells tv)[j * 3 + 1]? = some tv[j].2.1 ∧ (tvCells tv)[j * 3 + 2]? = some tv[j].2.2 := by
  induction tv generalizing j with
  | nil => simp at h
  | cons x r ih =>
    have ec : tvCells (x :: r) = .int .i64 x.1 :: x.2.1 :: x.2.2 :: tvCells r := rfl
    match j, h with
    | 0, _ => exact ⟨rfl, rfl, rfl⟩
    | j + 1, h =>
      obtain ⟨q1, q2, q3⟩ := ih j (by simpa using h)
      rw [ec, show (j + 1) * 3 = j * 3 + 3 by omega]
      exact ⟨q1, q2, q3⟩

def OwnT (B : Nat) (w wr : World) (v : Value) (tv : List (Int × Value × Value)) : Prop :=
  wr.ownsRow B 43 3 v tv.length (tvCells tv) ∧ Below B w wr ∧ B ≤ wr.heap.size

theorem OwnT.nil_of {B : Nat} {w wr : World} (hb : Below B w wr) (hB : B ≤ wr.heap.size) : OwnT B w wr (.slice none 0 0) [] := ⟨World.ownsRow_nil _ _ _ _, hb, hB⟩

theorem OwnT.trans {B : Nat} {w wr w2 : World} {v : Value} {tv : List (Int × Value × Value)} (h : OwnT B w wr v tv) (hb : Below wr.heap.size wr w2) : OwnT B w w2 v tv := by
  obtain ⟨hown, hb0, hB⟩ := h
  refine ⟨hown.kept (row := none) ⟨hb.os, hb.tape, hb.output, hb.size, fun k hk _ => hb.block k hk⟩ ?_, hb0.trans (hb.mono hB), Nat.le_trans hB hb.size⟩
  cases hv : v.ownBlock with
  | none => exact .inl rfl
  | some k => exact .inr (by simp)

/-- Read as transitions. -/
theorem tran_read {B : Nat} {wr : World} {v : Value} {tv : List (Int × Value × Value)} {ts : List TranL} (hown : wr.ownsRow B 43 3 v tv.length (tvCells tv)) (hl : tv.length ≤ 2513169434916) (he : ts.length = tv.length)
    (hx : ∀ j (hj : j < tv.length), tv[j].1 = (tranAt ts j).label ∧ Ints wr tv[j].2.1 (tranAt ts j).pre ∧ Ints wr tv[j].2.2 (tranAt ts j).post) : Trans wr v ts := by
  have hown0 := hown
  obtain ⟨_, hcase⟩ := hown
  rcases hcase with ⟨rfl, h0⟩ | ⟨g, cap', cur, rfl, hg, hh, hn, hcap, hsz, htake⟩
  · exact ⟨none, tv.length, 0, by rw [h0], he, hl, ⟨by omega, by omega, fun _ => rfl⟩, fun j hj => absurd hj (by omega)⟩
  · refine ⟨_, _, _, rfl, he, hl, ⟨hn, by unfold maxLen at hcap; omega, fun h => by cases h⟩, fun j hj => ?_⟩
    have hj' : j < tv.length := by omega
    obtain ⟨e1, e2, e3⟩ := hx j hj'
    obtain ⟨q1, q2, q3⟩ := tvCells_at tv j hj'
    refine ⟨g, 0, tv[j].2.1, tv[j].2.2, rfl, ?_, ?_, ?_, ?_, e2, e3⟩
    · rcases Nat.lt_or_ge g wr.heap.size with h | h
      · exact h
      · rw [Array.getElem?_eq_none h] at hh; cases hh
    · rw [Nat.zero_add, hown0.cellAt (j * 3) (by omega), q1, e1]
    · rw [Nat.zero_add, hown0.cellAt (j * 3 + 1) (by omega), q2]
    · rw [Nat.zero_add, hown0.cellAt (j * 3 + 2) (by omega), q3]

theorem info_tran : (Tryd.prog.info? 43).map (fun i => (i.zero, i.size, i.bytes)) = some (some (.agg #[.int .i64 0, .slice none 0 0, .slice none 0 0]), 3, 56) := by kernel_rfl

theorem wp_append_tran {ops : Array Oper} {rest : List Oper} {o : Oper} {a : Act} {Q : Exit → Act → World → Prop} (hgd : o.guard = none) (s x : Operand)
    (ho : o.op = .call { callee := .builtin .append, args := #[s, x], argTypes := #[22, 22] }) (B : Nat) (w wr : World) (v : Value) (tv : List (Int × Value × Value))
    (l : Int) (a1 a2 : Option Addr) (l1 l2 p1 p2 : Nat) (b : Nat) (hG : OwnT B w wr v tv)
    (hs : a.eval s = v) (hx : a.eval x = .slice (some ⟨b, 0, none⟩) 1 1) (hbk : b = wr.heap.size) (hl : tv.length + 1 ≤ 2513169434916)
    (h : ∀ v' w', OwnT B w w' v' (tv ++ [(l, .slice a1 l1 p1, .slice a2 l2 p2)]) → wpList Tryd.prog ops Q rest (a.put o.dst v') w') :
    wpList Tryd.prog ops Q (o :: rest) a (wr.alloc (.cells #[.int .i64 l, .slice a1 l1 p1, .slice a2 l2 p2] 43)) := by
  subst hbk
  obtain ⟨i0, hi, hz0, hz1, hz2⟩ := info_parts info_tran
  obtain ⟨hown, hb, hB⟩ := hG
  refine wpList_append_own _ hgd s x 22 ho B 43 i0 _ 3 56 Tryd.underlying22 hi hz0 hz1 hz2 rfl (by decide) v tv.length _ hs (hown.alloc _) ⟨wr.heap.size, 0, none⟩ 1 1 [.int .i64 l, .slice a1 l1 p1, .slice a2 l2 p2] hx rfl ?_ ?_ ?_ ?_ ?_ ?_
  · intro j u hj
    rw [addr_add, World.cell?_alloc_at _ _ _ _ rfl]
    match j, hj with
    | 0, hj => simpa using hj
    | 1, hj => simpa using hj
    | 2, hj => simpa using hj
  · intro u hu
    simp only [List.mem_cons, List.not_mem_nil, or_false] at hu
    rcases hu with rfl | rfl | rfl <;> rfl
  · unfold maxLen; omega
  · omega
  · simp; omega
  · intro v' w' hown' hgrow _
    refine h v' w' ⟨by rw [tvCells_append]; simpa [tvCells] using hown', (hb.alloc hB _).grown hgrow (by simp; omega) (fun k hk => (hown.lt k hk).1), ?_⟩
    have := hgrow.size; simp at this; omega

end Go.Proofs.YteeogdihaajicaaDoor
