/- What the walk over a tree needs: the laws of append for its rows, how it begins, and where it fails. -/
import Derived.Test.YtbpkebkblkjdhaaKnotAt
import Derived.Test.YtbpkebkblkjdhaaCover1
import Derived.Test.YtbpkebkblkjdhaaSlices1
namespace Go.Proofs.Ytbpkebkblkjdhaa
open Go.RowKit
set_option linter.unusedVariables false

theorem info_intsK : (Try.prog.info? 25).map (fun i => (i.zero, i.size, i.bytes)) = some (some (.slice none 0 0), 1, 24) := by kernel_rfl
theorem info_lists : (Try.prog.info? 44).map (fun i => (i.zero, i.size, i.bytes)) = some (some (.slice none 0 0), 1, 24) := by kernel_rfl

theorem cell_one_lit (w : World) (u : Value) (t : TypeId) : ∀ (j : Nat) (x : Value), [u][j]? = some x → (w.alloc (.cells #[u] t)).cell? ((⟨w.heap.size, 0, none⟩ : Addr).add j) = some x := by
  intro j x hj
  match j, hj with
  | 0, hj => simp at hj; subst hj; simp [Addr.add]

theorem wp_append_line {ops : Array Oper} {rest : List Oper} {o : Oper} {a : Act} {Q : Exit → Act → World → Prop} (hgd : o.guard = none) (s x : Operand)
    (ho : o.op = .call { callee := .builtin .append, args := #[s, x], argTypes := #[60, 60] }) (B : Nat) (wr : World) (v : Value) (n : Nat) (us : List Value) (ax : Option Addr) (lx cx : Nat)
    (hown : wr.ownsRow B 44 1 v n us) (hs : a.eval s = v) (hx : a.eval x = .slice (some ⟨wr.heap.size, 0, none⟩) 1 1) (hl : n + 1 ≤ 2513169434916) (hB : B ≤ wr.heap.size)
    (h : ∀ v' w', w'.ownsRow B 44 1 v' (n + 1) (us ++ [.slice ax lx cx]) → (wr.alloc (.cells #[.slice ax lx cx] 44)).grownBy w' v.ownBlock →
      (v'.ownBlock = v.ownBlock ∨ v'.ownBlock = some (wr.alloc (.cells #[.slice ax lx cx] 44)).heap.size) → wpList Try.prog ops Q rest (a.put o.dst v') w') :
    wpList Try.prog ops Q (o :: rest) a (wr.alloc (.cells #[.slice ax lx cx] 44)) := by
  obtain ⟨i0, hi, hz0, hz1, hz2⟩ := info_parts info_lists
  refine wpList_append_own_at _ hgd s x 60 ho B 44 i0 _ 1 24 Try.underlying60 hi hz0 hz1 hz2 rfl (by decide) v n _ hs (hown.alloc _) ⟨wr.heap.size, 0, none⟩ 1 1 [.slice ax lx cx] hx rfl (cell_one_lit _ _ _) ?_ ?_ ?_ ?_ ?_
  · intro u hu; simp at hu; subst hu; rfl
  · unfold maxLen; omega
  · omega
  · simp; omega
  · intro v' w' h1 h2 _ h3
    exact h v' w' h1 h2 h3

/-- append of all elements of a slice of slices, inside a region that draws its order. -/
theorem wpr_append_vals {o : Oper} {a : Act} {K : Act → World → Prop} {Q : Exit → Act → World → Prop} {Y : Nat → Option Bool} (hwt : Region.wanted o Y = true) (s x : Operand)
    (ho : o.op = .call { callee := .builtin .append, args := #[s, x], argTypes := #[44, 44] }) (B : Nat) (wr : World) (v u : Value) (n : Nat) (us vs : List Value) (ls : List (List Int))
    (hown : wr.ownsRow B 25 1 v n us) (hs : a.eval s = v) (hx : a.eval x = u) (hu : ListsV wr u vs ls) (hl : n + vs.length ≤ 2513169434916) (hB : B ≤ wr.heap.size)
    (h : ∀ v' w', w'.ownsRow B 25 1 v' (n + vs.length) (us ++ vs) → wr.grownBy w' v.ownBlock → (v'.ownBlock = v.ownBlock ∨ v'.ownBlock = some wr.heap.size) → K (a.put o.dst v') w') :
    if Region.wanted o Y = true then Oper.wp Try.prog o a wr K Q else K (a.put o.dst undef) wr := by
  obtain ⟨i0, hi, hz0, hz1, hz2⟩ := info_parts info_intsK
  obtain ⟨ax, len, cap, rfl, hlen, hlen2, hsh, hr⟩ := hu
  cases ax with
  | none =>
    have hc0 : cap = 0 := hsh.2.2 rfl
    have hl0 : len = 0 := by have := hsh.1; omega
    subst hc0 hl0
    have hy : vs = [] := List.length_eq_zero_iff.1 hlen
    subst hy
    rw [if_pos hwt]
    have hrun := run_append_owned_none (P := Try.prog) (w := wr) B 44 o.type 25 i0 1 Try.underlying44 hi v n _ hown
    have hK := h v wr (by simpa using hown) ⟨rfl, rfl, rfl, Nat.le_refl _, fun _ _ _ => rfl⟩ (.inl rfl)
    unfold Oper.wp
    simp [execOp, ho, resolve, invoke, builtin, hs, hx, hrun, Result.andThen]
    exact hK
  | some ad =>
    refine wp_append_at _ hwt s x 44 ho B 25 i0 (.slice none 0 0) 1 24 Try.underlying44 hi hz0 hz1 hz2 rfl (by decide) v n _ hs hown ad len cap vs hx (by simp [hlen]) ?_ ?_ ?_ ?_ hB ?_
    · intro j u hj
      have hjl : j < vs.length := by
        rcases Nat.lt_or_ge j vs.length with h1 | h1
        · exact h1
        · rw [List.getElem?_eq_none (by simpa using h1)] at hj; cases hj
      obtain ⟨b, off, e, hlt, hc, _, _⟩ := hr j (by omega)
      injection e with e
      subst e
      rw [addr_add, hc, ← valAt_get hjl]
      exact hj
    · intro u hu
      obtain ⟨j, hj, rfl⟩ := List.getElem_of_mem hu
      obtain ⟨b, off, e, hlt, hc, h1, _⟩ := hr j (by omega)
      have := valAt_get hj
      rw [List.getElem?_eq_getElem hj] at this
      injection this with this
      rw [this]; exact h1
    · unfold maxLen; omega
    · omega
    · intro v' w' h1 h2 h3
      rw [← hlen] at h1
      exact h v' w' h1 h2 h3

/-- append of one slice, whose literal lies somewhere, inside a region that draws its order. -/
theorem wpr_append_one {o : Oper} {a : Act} {K : Act → World → Prop} {Q : Exit → Act → World → Prop} {Y : Nat → Option Bool} (hwt : Region.wanted o Y = true) (s x : Operand)
    (ho : o.op = .call { callee := .builtin .append, args := #[s, x], argTypes := #[44, 44] }) (B : Nat) (wr : World) (v : Value) (n : Nat) (us : List Value) (bl : Nat) (ax : Option Addr) (lx cx : Nat)
    (hown : wr.ownsRow B 25 1 v n us) (hs : a.eval s = v) (hx : a.eval x = .slice (some ⟨bl, 0, none⟩) 1 1) (hc : wr.cell? ⟨bl, 0, none⟩ = some (.slice ax lx cx)) (hl : n + 1 ≤ 2513169434916) (hB : B ≤ wr.heap.size)
    (h : ∀ v' w', w'.ownsRow B 25 1 v' (n + 1) (us ++ [.slice ax lx cx]) → wr.grownBy w' v.ownBlock → (v'.ownBlock = v.ownBlock ∨ v'.ownBlock = some wr.heap.size) → K (a.put o.dst v') w') :
    if Region.wanted o Y = true then Oper.wp Try.prog o a wr K Q else K (a.put o.dst undef) wr := by
  obtain ⟨i0, hi, hz0, hz1, hz2⟩ := info_parts info_intsK
  refine wp_append_at _ hwt s x 44 ho B 25 i0 (.slice none 0 0) 1 24 Try.underlying44 hi hz0 hz1 hz2 rfl (by decide) v n _ hs hown ⟨bl, 0, none⟩ 1 1 [.slice ax lx cx] hx rfl ?_ ?_ ?_ ?_ hB h
  · intro j u hj
    match j, hj with
    | 0, hj => simp at hj; subst hj; rw [addr_add]; exact hc
  · intro u hu; simp at hu; subst hu; rfl
  · unfold maxLen; omega
  · omega

theorem tree_start (W : World) (u : Value) (m : List Int) (h1 : u.oneCell' = true) (hu : Ints W u m) :
    TreeAt W.heap.size W ((W.alloc (.cells #[.int .i64 (-1), .int .i64 (-1), u] 39)).alloc (.cells #[.slice none 0 0] 44)) [rootK m] (.slice (some ⟨W.heap.size, 0, none⟩) 1 1) (.slice (some ⟨W.heap.size + 1, 0, none⟩) 1 1) [u] [.slice none 0 0] [[]] := by
  have b1 := below_new W (.cells #[.int .i64 (-1), .int .i64 (-1), u] 39)
  have b2 := below_new (W.alloc (.cells #[.int .i64 (-1), .int .i64 (-1), u] 39)) (.cells #[.slice none 0 0] 44)
  have e1 : (W.alloc (.cells #[.int .i64 (-1), .int .i64 (-1), u] 39)).heap.size = W.heap.size + 1 := by simp
  refine ⟨⟨by simp [knotCells, triTo], .inr ⟨W.heap.size, 1, #[.int .i64 (-1), .int .i64 (-1), u], rfl, Nat.le_refl _, ?_, by simp, by unfold maxLen; omega, by simp, by simp [knotCells, triTo, knotAt, rootK, valAt]⟩⟩, ⟨by simp, .inr ⟨W.heap.size + 1, 1, #[.slice none 0 0], rfl, by omega, ?_, by simp, by unfold maxLen; omega, by simp, by simp⟩⟩, below_then b1 b2, by simp; omega, ?_, by simp, by simp, by simp, ?_, ?_⟩
  · rw [b2.block W.heap.size (by simp)]
    exact heap_alloc_new W _
  · have := heap_alloc_new (W.alloc (.cells #[.int .i64 (-1), .int .i64 (-1), u] 39)) (.cells #[.slice none 0 0] 44)
    rw [e1] at this
    exact this
  · intro k hk; simp only [Value.ownBlock] at hk ⊢; injection hk with hk; intro e; injection e with e; omega
  · intro j hj
    have e : j = 0 := by simpa using hj
    subst e
    refine ⟨h1, ?_⟩
    intro w' hs hk
    obtain ⟨a, len, cap, e, hl, hm, hsh, hr⟩ := hu
    refine ⟨a, len, cap, e, hl, hm, hsh, ?_⟩
    have hr2 := (hr.below b1).below b2
    intro i hi
    obtain ⟨b, off, ha, hlt, hc⟩ := hr i hi
    refine ⟨b, off, ha, by simp at hs; omega, ?_⟩
    have hb : w'.heap[b]? = _ := hk b (by simp; omega) (by constructor <;> (simp only [Value.ownBlock]; intro e; injection e with e; omega))
    rw [World.cell?_of_block (a := ⟨b, off + i, none⟩) hb, b2.cell (p := ⟨b, off + i, none⟩) (by simp; omega), b1.cell (p := ⟨b, off + i, none⟩) hlt]
    exact hc
  · intro j hj
    have e : j = 0 := by simpa using hj
    subst e
    exact ⟨rfl, fun w' _ _ => ListsV.nil w'⟩

theorem grow_none {n : NetL} {most k : Nat} {s : List KnotX} {t : Nat} (h : growTo n most k s t = none) : ∀ j, growTo n most k s (t + j) = none := by
  intro j
  induction j with
  | zero => exact h
  | succ j ih => rw [← Nat.add_assoc, growTo, ih]; rfl
theorem tree_none {n : NetL} {m : List Int} {most k : Nat} (h : treeTo n m most k = none) : ∀ j, treeTo n m most (k + j) = none := by
  intro j
  induction j with
  | zero => exact h
  | succ j ih => rw [← Nat.add_assoc, treeTo, ih]; rfl
theorem tree_fails {n : NetL} {m : List Int} {b k K t : Nat} {s s' : List KnotX} (e : treeTo n m b k = some s) (hk : k < s.length) (hs : seenK (knotAt s k) = false) (hK : k < K) (e2 : growTo n b k s t = some s') (ht : t < n.trans.length) (h : growT n b k s' t = none) : treeTo n m b K = none := by
  have h1 : growTo n b k s (t + 1) = none := by rw [growTo, e2]; exact h
  have h2 := grow_none h1 (n.trans.length - (t + 1))
  rw [show t + 1 + (n.trans.length - (t + 1)) = n.trans.length by omega] at h2
  have h3 : treeTo n m b (k + 1) = none := by
    rw [treeTo, e]
    simp only [Option.bind_some]
    rw [if_pos hk, hs]
    exact h2
  have h4 := tree_none h3 (K - (k + 1))
  rw [show k + 1 + (K - (k + 1)) = K by omega] at h4
  exact h4
theorem tree_stable {n : NetL} {m : List Int} {b k : Nat} {s : List KnotX} (e : treeTo n m b k = some s) (hk : s.length ≤ k) : ∀ j, treeTo n m b (k + j) = some s := by
  intro j
  induction j with
  | zero => exact e
  | succ j ih => rw [← Nat.add_assoc, treeTo, ih]; simp only [Option.bind_some]; rw [if_neg (by omega)]

/-- One pass, place by place. -/
def passTo (y x : List Int) (k : Nat) : List Int := if belowL y x then mapTo x.length (fun p => if p < k then raiseAt y x p else nth x p) else x
theorem passTo_zero (y x : List Int) : passTo y x 0 = x := by
  unfold passTo
  split
  · refine eq_of_at (mapTo_length _ _) fun p => ?_
    by_cases hp : p < x.length
    · rw [mapTo_nth _ _ _ hp]; simp
    · rw [nth_past _ p (by rw [mapTo_length]; omega), nth_past x p (by omega)]
  · rfl
theorem passTo_length (y x : List Int) (k : Nat) : (passTo y x k).length = x.length := by
  unfold passTo; split
  · exact mapTo_length _ _
  · rfl
theorem passTo_all (y x : List Int) (k : Nat) (hk : x.length ≤ k) : passTo y x k = raise1 y x := by
  unfold passTo raise1
  split
  · refine eq_of_at (by rw [mapTo_length, mapTo_length]) fun p => ?_
    by_cases hp : p < x.length
    · rw [mapTo_nth _ _ _ hp, mapTo_nth _ _ _ hp, if_pos (by omega)]
    · rw [nth_past _ p (by rw [mapTo_length]; omega), nth_past _ p (by rw [mapTo_length]; omega)]
  · rfl
theorem passTo_nth (y x : List Int) (k p : Nat) (hb : belowL y x = true) (hp : p < x.length) : nth (passTo y x k) p = if p < k then raiseAt y x p else nth x p := by
  unfold passTo; rw [if_pos hb, mapTo_nth _ _ _ hp]
/-- Who was below still is. -/
theorem passTo_below (y x : List Int) (k : Nat) : belowL y (passTo y x k) = belowL y x := by
  cases hb : belowL y x
  · unfold passTo; rw [hb]; exact hb
  · rw [belowL_iff] at hb ⊢
    intro p hp
    rw [passTo_length] at hp
    rw [passTo_nth y x k p ((belowL_iff y x).2 hb) hp]
    have := hb p hp
    split
    · unfold raiseAt
      split
      · rw [moreL_no]; exact .inl rfl
      · exact this
    · exact this
theorem passTo_here (y x : List Int) (k : Nat) (hk : k < x.length) : nth (passTo y x k) k = nth x k := by
  cases hb : belowL y x
  · unfold passTo; rw [hb]; rfl
  · rw [passTo_nth y x k k hb hk]; simp
theorem nth_setK (zs : List Int) (j p : Nat) (x : Int) (hj : j < zs.length) : nth (zs.set j x) p = if p = j then x else nth zs p := by
  unfold nth
  rw [List.getD_eq_getElem?_getD, List.getD_eq_getElem?_getD, List.getElem?_set]
  by_cases e : p = j
  · subst e; simp [hj]
  · have : ¬ j = p := fun q => e q.symm
    simp [e, this]
theorem passTo_yes (y x : List Int) (k : Nat) (hk : k < x.length) (hb : belowL y x = true) (hm : moreL (nth x k) (nth y k) = true) : (passTo y x k).set k (-1) = passTo y x (k + 1) := by
  refine eq_of_at (by rw [List.length_set, passTo_length, passTo_length]) fun p => ?_
  rw [nth_setK _ _ _ _ (by rw [passTo_length]; exact hk)]
  by_cases hp : p < x.length
  · rw [passTo_nth y x _ p hb hp, passTo_nth y x _ p hb hp]
    by_cases e : p = k
    · subst e; rw [if_pos rfl, if_pos (by omega), raiseAt, if_pos hm]
    · rw [if_neg e]
      by_cases q : p < k
      · rw [if_pos q, if_pos (by omega)]
      · rw [if_neg q, if_neg (by omega)]
  · rw [if_neg (by omega), nth_past _ p (by rw [passTo_length]; omega), nth_past _ p (by rw [passTo_length]; omega)]
theorem passTo_no (y x : List Int) (k : Nat) (hk : k < x.length) (h : belowL y x = false ∨ moreL (nth x k) (nth y k) = false) : passTo y x k = passTo y x (k + 1) := by
  cases hb : belowL y x
  · unfold passTo; rw [hb]; rfl
  · have hm : moreL (nth x k) (nth y k) = false := by
      rcases h with q | q
      · rw [hb] at q; cases q
      · exact q
    refine eq_of_at (by rw [passTo_length, passTo_length]) fun p => ?_
    by_cases hp : p < x.length
    · rw [passTo_nth y x _ p hb hp, passTo_nth y x _ p hb hp]
      by_cases e : p = k
      · subst e; rw [if_neg (by omega), if_pos (by omega), raiseAt, hm]; rfl
      · by_cases q : p < k
        · rw [if_pos q, if_pos (by omega)]
        · rw [if_neg q, if_neg (by omega)]
    · rw [nth_past _ p (by rw [passTo_length]; omega), nth_past _ p (by rw [passTo_length]; omega)]

theorem raiseAll_take (mine : List (List Int)) (x : List Int) (j : Nat) (hj : j < mine.length) : raiseAll (mine.take (j + 1)) x = raise1 (markAt mine j) (raiseAll (mine.take j) x) := by
  unfold raiseAll
  rw [List.take_succ_eq_append_getElem hj, List.foldl_append]
  rw [markAt, List.getD_eq_getElem?_getD, List.getElem?_eq_getElem hj]; rfl

theorem seen_take (l : List (List Int)) (m : List Int) (j : Nat) (hj : j < l.length) : (l.take (j + 1)).contains m = ((l.take j).contains m || (markAt l j == m)) := by
  rw [List.take_succ_eq_append_getElem hj, markAt, List.getD_eq_getElem?_getD, List.getElem?_eq_getElem hj, List.contains_eq_any_beq, List.contains_eq_any_beq, List.any_append]
  simp only [List.any_cons, List.any_nil, Bool.or_false, Option.getD_some]
  congr 1
  rw [Bool.eq_iff_iff, beq_iff_eq, beq_iff_eq]
  exact eq_comm

theorem own_empty {B : Nat} {w : World} {b : Nat} {t : TypeId} (h : w.heap[b]? = some (.cells #[] t (0, 0))) (hB : B ≤ b) : w.ownsRow B t 1 (.slice (some ⟨b, 0, none⟩) 0 0) 0 [] :=
  ⟨rfl, .inr ⟨b, 0, #[], rfl, hB, h, Nat.le_refl _, by unfold maxLen; omega, rfl, rfl⟩⟩
theorem lit_cell (w : World) (u : Value) (t : TypeId) : (w.alloc (.cells #[u] t)).cell? ⟨w.heap.size, 0, none⟩ = some u := by simp
theorem below_drewK {B : Nat} {a w : World} (h : Below B a w) : Below B a w.drew := h.drew

/-- The three ways in which the two literals come. -/
theorem mine_ways (W : World) (u : Value) (t : TypeId) :
    ((W.alloc (.cells #[] t)).drew.ownsRow W.heap.size t 1 (.slice (some ⟨W.heap.size, 0, none⟩) 0 0) 0 [] ∧ Below W.heap.size W (W.alloc (.cells #[] t)).drew) ∧
    (((W.alloc (.cells #[] t)).alloc (.cells #[u] t)).drew.ownsRow W.heap.size t 1 (.slice (some ⟨W.heap.size, 0, none⟩) 0 0) 0 [] ∧ Below W.heap.size W ((W.alloc (.cells #[] t)).alloc (.cells #[u] t)).drew ∧
      ((W.alloc (.cells #[] t)).alloc (.cells #[u] t)).drew.cell? ⟨W.heap.size + 1, 0, none⟩ = some u) ∧
    (((W.alloc (.cells #[u] t)).alloc (.cells #[] t)).drew.ownsRow W.heap.size t 1 (.slice (some ⟨W.heap.size + 1, 0, none⟩) 0 0) 0 [] ∧ Below W.heap.size W ((W.alloc (.cells #[u] t)).alloc (.cells #[] t)).drew ∧
      ((W.alloc (.cells #[u] t)).alloc (.cells #[] t)).drew.cell? ⟨W.heap.size, 0, none⟩ = some u) := by
  have b1 := below_new W (.cells #[] t)
  have b2 := below_new (W.alloc (.cells #[] t)) (.cells #[u] t)
  have b3 := below_new W (.cells #[u] t)
  have b4 := below_new (W.alloc (.cells #[u] t)) (.cells #[] t)
  have s1 : (W.alloc (.cells #[] t)).heap.size = W.heap.size + 1 := by simp
  have s2 : (W.alloc (.cells #[u] t)).heap.size = W.heap.size + 1 := by simp
  refine ⟨⟨own_empty ?_ (Nat.le_refl _), b1.drew⟩, ⟨own_empty ?_ (Nat.le_refl _), (below_then b1 b2).drew, ?_⟩, own_empty ?_ (by omega), (below_then b3 b4).drew, ?_⟩
  · exact heap_alloc_new W _
  · exact (b2.block W.heap.size (by omega)).trans (heap_alloc_new W _)
  · have := lit_cell (W.alloc (.cells #[] t)) u t
    rw [s1] at this
    exact this
  · have := heap_alloc_new (W.alloc (.cells #[u] t)) (.cells #[] t)
    rw [s2] at this
    exact this
  · have := (b4.cell (p := ⟨W.heap.size, 0, none⟩) (by show W.heap.size < _; omega)).trans (lit_cell W u t)
    exact this

theorem mine_on {ov lv mv xv : Value} {B : Nat} {w2 : World} {us : List Value} {ls : List (List Int)} {x : List Int} {u0 : Value} {N : Nat} (hN : N = us.length + 1) (hown : w2.ownsRow B 25 1 mv N (us ++ [xv]))
    (hO : ∀ k, ov.ownBlock = some k → k < B) (hL : ∀ k, lv.ownBlock = some k → k < B) (h1 : xv.oneCell' = true)
    (hl : On (Off ov lv) w2 (fun w' => ListsV w' u0 us ls)) (hx : On (Off ov lv) w2 (fun w' => Ints w' xv x)) : On (Off ov lv) w2 (fun w' => ListsV w' mv (us ++ [xv]) (ls ++ [x])) := by
  subst hN
  have hon := ownsRow_on hown
  intro w' hs hk
  have r1 := hl w' hs hk
  have r2 := hx w' hs hk
  have r3 : w'.ownsRow B 25 1 mv (us.length + 1) (us ++ [xv]) := hon w' hs fun k hlt hd => hk k hlt ⟨fun e => by have := hO k e; have := hd.2; omega, fun e => by have := hL k e; have := hd.2; omega⟩
  obtain ⟨a, len, cap, e, q1, q2, q3, q4⟩ := r1
  rcases r3.2 with ⟨_, h0⟩ | ⟨g, cap', cur, rfl, hg, hh, hn, hcap, _⟩
  · omega
  · refine ⟨_, us.length + 1, cap', rfl, by simp, by simp; omega, ⟨hn, by unfold maxLen at hcap; omega, fun h => by cases h⟩, fun j hj => ?_⟩
    refine ⟨g, 0, rfl, (Array.getElem?_eq_some_iff.1 hh).1, ?_, ?_, ?_⟩
    · rw [Nat.zero_add, r3.cellAt j (by omega)]
      exact valAt_get (by simp; omega)
    · by_cases hjl : j < us.length
      · rw [valAt_append hjl]
        obtain ⟨_, _, _, _, _, h5, _⟩ := q4 j (by omega)
        exact h5
      · have e : j = us.length := by omega
        subst e; rw [valAt_last]; exact h1
    · by_cases hjl : j < us.length
      · rw [valAt_append hjl, markAt_append (by omega)]
        obtain ⟨_, _, _, _, _, _, h5⟩ := q4 j (by omega)
        exact h5
      · have e : j = us.length := by omega
        subst e
        have em : markAt (ls ++ [x]) us.length = x := by rw [show us.length = ls.length by omega]; exact markAt_last ls x
        rw [valAt_last, em]; exact r2

theorem own_shape {B : Nat} {w wr : World} {v : Value} {zs : List Int} (h : Own B w wr v zs) : ∃ a c, v = .slice a zs.length c ∧ (0 < zs.length → ∃ g, a = some ⟨g, 0, none⟩) := by
  rcases h.1.2 with ⟨e, h0⟩ | ⟨g, cap', cur, e, _⟩
  · exact ⟨none, 0, by rw [e, h0], fun q => by omega⟩
  · exact ⟨_, _, e, fun _ => ⟨g, rfl⟩⟩
theorem ListsV.at {w : World} {a : Option Addr} {len cap : Nat} {us : List Value} {ls : List (List Int)} (h : ListsV w (.slice a len cap) us ls) {j : Nat} (hj : j < len) :
    ∃ b off, a = some ⟨b, off, none⟩ ∧ b < w.heap.size ∧ w.cell? ⟨b, off + j, none⟩ = some (valAt us j) ∧ (valAt us j).oneCell' = true ∧ Ints w (valAt us j) (markAt ls j) := by
  obtain ⟨a', len', cap', e, _, _, _, hr⟩ := h
  injection e with e1 e2 e3
  subst e1 e2 e3
  exact hr j hj
theorem grow_step {n : NetL} {most k t : Nat} {s s' s2 : List KnotX} (e : growTo n most k s t = some s') (h : growT n most k s' t = some s2) : growTo n most k s (t + 1) = some s2 := by rw [growTo, e]; exact h
theorem growT_skip {n : NetL} {most k t : Nat} {s : List KnotX} (h : belowL (tranAt n.trans t).pre (knotAt s k).mark = false) : growT n most k s t = some s := by unfold growT; rw [h]; rfl
theorem growT_full {n : NetL} {most k t : Nat} {s : List KnotX} (h : belowL (tranAt n.trans t).pre (knotAt s k).mark = true) (hl : most ≤ s.length) : growT n most k s t = none := by unfold growT; rw [h, if_pos hl]; rfl
theorem growT_new {n : NetL} {most k t : Nat} {s : List KnotX} (h : belowL (tranAt n.trans t).pre (knotAt s k).mark = true) (hl : ¬ most ≤ s.length) : growT n most k s t = some (s ++ [kid n k t (knotAt s k)]) := by unfold growT; rw [h, if_neg hl]; rfl

/-- Among the first j. -/
def seenTo (x : KnotX) (j : Nat) : Bool := (x.line.take j).contains x.mark
theorem seenTo_succ (x : KnotX) (j : Nat) (hj : j < x.line.length) : seenTo x (j + 1) = (seenTo x j || (markAt x.line j == x.mark)) := seen_take x.line x.mark j hj
theorem seenTo_zero (x : KnotX) : seenTo x 0 = false := rfl
theorem seenTo_all (x : KnotX) (j : Nat) (hj : x.line.length ≤ j) : seenTo x j = seenK x := by rw [seenTo, List.take_of_length_le hj]; rfl

end Go.Proofs.Ytbpkebkblkjdhaa
