import Derived.Test.YtlknegihhcdhbaaTrFirst
import Derived.Test.YtlknegihhcdhbaaGr09
import Derived.Test.YtlknegihhcdhbaaGr07
/- rising over a set of pairs. -/
namespace Go.Proofs.Ytlknegihhcdhbaa
open Go.RowKit Go.Lib Go.Sort Go.Shelf
set_option linter.unusedVariables false
set_option linter.unusedSimpArgs false
set_option maxRecDepth 4000

/-! Rows of cells, as a sort leaves them. -/
theorem heap_sorted_c {w : World} {g n : Nat} {os : Array Obj} {cur : Array Value} {e : TypeId} {fr : Nat × Nat} (d : Array Value) (hb : w.heap[g]? = some (.cells cur e fr)) :
    (grow (putRow id (Sort.ahead w n) g 0 d) os).heap[g]? = some (.cells (putCells id 0 d cur) e fr) := by
  have hg : g < w.heap.size := (Array.getElem?_eq_some_iff.1 hb).1
  rw [heap_grow_old _ _ (by simpa using hg)]
  simp [putRow, mapBlock, Sort.ahead, Array.getElem?_modify, hb, onCells]
theorem grownBy_sorted_c {w : World} {g n : Nat} {os : Array Obj} (d : Array Value) : w.grownBy (grow (putRow id (Sort.ahead w n) g 0 d) os) (some g) := by
  refine ⟨rfl, rfl, rfl, by simp, fun k hk hne => ?_⟩
  rw [heap_grow_old _ _ (by simpa using hk)]
  have : g ≠ k := fun e => hne (by rw [e])
  simp [putRow, mapBlock, Sort.ahead, Array.getElem?_modify, this]
theorem take_putCells_c (cur : Array Value) (ts : List Value) (h : ts.length ≤ cur.size) : (putCells id 0 ts.toArray cur).toList.take ts.length = ts := by
  apply List.ext_getElem?
  intro j
  by_cases hj : j < ts.length
  · rw [List.getElem?_take_of_lt hj, Array.getElem?_toList]
    simp [putCells, hj, show j < cur.size by omega]
  · rw [List.getElem?_take_eq_none (by omega), List.getElem?_eq_none (by omega)]
theorem ownsRow_sorted_c {w : World} {base g cap m n size : Nat} {e : TypeId} {os : Array Obj} {cur : Array Value} {ts : List Value} (hl : ts.length = m * size) (hbase : base ≤ g) (hb : w.heap[g]? = some (.cells cur e (0, 0)))
    (h1 : m ≤ cap) (h2 : cap ≤ maxLen) (h3 : cur.size = cap * size) :
    (grow (putRow id (Sort.ahead w n) g 0 ts.toArray) os).ownsRow base e size (.slice (some ⟨g, 0, none⟩) m cap) m ts :=
  ⟨hl, .inr ⟨g, cap, _, rfl, hbase, heap_sorted_c _ hb, h1, h2, by simp [putCells, h3], by rw [← hl]; exact take_putCells_c cur ts (by rw [hl, h3]; exact Nat.mul_le_mul_right _ h1)⟩⟩
theorem holds_of_block_c {w : World} {g : Nat} {cur : Array Value} {e : TypeId} {ss : List Value} (hb : w.heap[g]? = some (.cells cur e (0, 0))) (ht : cur.toList.take ss.length = ss) : Holds id w g 0 ss.toArray := by
  intro j hj
  have hj' : j < ss.length := by simpa using hj
  refine ⟨?_, by simp [World.frozen?, hb]⟩
  have h1 : (cur.toList.take ss.length)[j]? = ss[j]? := by rw [ht]
  rw [List.getElem?_take_of_lt hj'] at h1
  simp only [World.cell?, hb, Nat.zero_add]
  simp only [Option.isSome_none, Bool.false_eq_true, if_false]
  rw [← Array.getElem?_toList, h1]
  simp [hj']

/-- Pairs as cells. -/
def cellsP (l : List (Int × Int)) : List Value := l.flatMap encP
theorem cellsP_len : ∀ l, (cellsP l).length = l.length * 2
  | [] => rfl
  | x :: l => by show (encP x ++ cellsP l).length = _; rw [List.length_append, cellsP_len l, List.length_cons]; show 2 + _ = _; omega
theorem cellsP_get : ∀ (l : List (Int × Int)) (t : Nat), t < l.length * 2 → (cellsP l)[t]! = (encP l[t / 2]!)[t % 2]!
  | [], t, h => by simp at h
  | x :: l, 0, h => rfl
  | x :: l, 1, h => rfl
  | x :: l, t + 2, h => by
    have := cellsP_get l t (by rw [List.length_cons] at h; omega)
    rw [show (t + 2) / 2 = t / 2 + 1 by omega, show (t + 2) % 2 = t % 2 by omega]
    show (cellsP l)[t]! = _
    rw [this]
    rfl
theorem flat_cells (d : Array (Int × Int)) : (flatK encP 2 d).toList = cellsP d.toList := by
  have hl : (flatK encP 2 d).toList.length = (cellsP d.toList).length := by rw [cellsP_len, Array.length_toList, size_flatK, Array.length_toList]
  refine List.ext_getElem hl fun t h1 h2 => ?_
  have ht : t < d.size * 2 := by rw [Array.length_toList, size_flatK] at h1; exact h1
  have e1 := get_flatK encP 2 d t ht
  have e2 := cellsP_get d.toList t (by rw [Array.length_toList]; exact ht)
  rw [getElem!_pos (flatK encP 2 d) t (by rw [size_flatK]; exact ht)] at e1
  rw [getElem!_pos (cellsP d.toList) t h2] at e2
  rw [Array.getElem_toList, e1, e2]
  have e3 : d.toList[t / 2]! = d[t / 2]! := by
    rw [getElem!_pos d.toList (t / 2) (by rw [Array.length_toList]; omega), getElem!_pos d (t / 2) (by omega), Array.getElem_toList]
  rw [e3]
theorem cellsP_append (l m : List (Int × Int)) : cellsP (l ++ m) = cellsP l ++ cellsP m := by unfold cellsP; rw [List.flatMap_append]
theorem encP_one (x : Int × Int) : ∀ v ∈ encP x, v.oneCell' = true := by
  intro v hv
  simp only [encP, List.mem_cons, List.not_mem_nil, or_false] at hv
  rcases hv with rfl | rfl <;> rfl

theorem byFirst_enters : ∀ args w, (callFunc 62 args).run Try.prog w = .ok (.enter 62 args) w := enters_of Try.func62 (by kernel_rfl) rfl
theorem cmpPair (blk off size : Nat) (w : World) : CmpLays Try.prog 62 #[] encP 2 cmpP blk off size w := fun _ _ _ _ x y => byFirst_any x y _

abbrev OwnP (B : Nat) (w wr : World) (v : Value) (zs : List (Int × Int)) : Prop := OwnC B w wr 38 2 v zs.length (cellsP zs)

/-- slices.SortFunc over a row of the call's own, by byFirst. -/
theorem sortFP_own (B : Nat) (w wr : World) (v : Value) (zs : List (Int × Int)) (hO : OwnP B w wr v zs) (hl : zs.length ≤ 8796093022208) (hn : ∃ a c, v = .slice (some a) zs.length c) :
    Calls Try.prog 18 #[v, .func (.func 62) #[] #[]] wr fun e w' => e = .returned (.tuple #[]) ∧ ∃ ts, ts.Perm zs ∧ ts.Pairwise (fun x y => ¬ (y.1 < x.1 ∨ y.1 = x.1 ∧ y.2 < x.2)) ∧ OwnP B w w' v ts ∧ wr.grownBy w' v.ownBlock := by
  obtain ⟨hrow, hb, hB⟩ := hO
  rcases hrow.2 with ⟨rfl, hz⟩ | ⟨gb, cap, cur, rfl, hbase, hgb, r1, r2, r3, r4⟩
  · obtain ⟨a, c, e⟩ := hn; cases e
  · have hf : flatK encP 2 zs.toArray = (cellsP zs).toArray := by
      have := flat_cells zs.toArray
      rw [List.toList_toArray] at this
      rw [← this, Array.toArray_toList]
    have hH : HoldsK encP 2 wr gb 0 zs.toArray := by
      show Holds id wr gb 0 _
      rw [hf]
      exact holds_of_block_c hgb (by rw [cellsP_len]; exact r4)
    have hgl : gb < wr.heap.size := (Array.getElem?_eq_some_iff.1 hgb).1
    have hcon := AnyQ.slices_SortFunc sortFP 2 Try.isAgg38 Try.sizeOf38 encP (fun _ => rfl) encP_one cmpP swoP 62 #[] gb 0 cap zs.toArray wr byFirst_enters (cmpPair gb 0 zs.toArray.size wr) hH hgl (by simp; omega)
    rw [List.size_toArray] at hcon
    refine Calls.mono hcon ?_
    rintro e w' ⟨rfl, d', nn, os, ⟨hp1, _, hp2⟩, hs, rfl⟩
    replace hp1 : d'.size = zs.length := by rw [← List.size_toArray]; exact hp1
    have hdl : d'.toList.length = zs.length := by rw [Array.length_toList, hp1]
    have hperm : d'.toList.Perm zs := by
      have e1 : (d'.extract 0 zs.length).toList = d'.toList := by rw [← hp1]; simp
      have e2 : (zs.toArray.extract 0 zs.length).toList = zs := by simp
      rw [e1, e2] at hp2
      exact hp2
    have hfd : flatK encP 2 d' = (cellsP d'.toList).toArray := by rw [← flat_cells d', Array.toArray_toList]
    show _ ∧ ∃ ts, _ ∧ _ ∧ OwnP B w (grow (putRow id (Sort.ahead wr nn) gb 0 (flatK encP 2 d')) os) _ ts ∧ wr.grownBy (grow (putRow id (Sort.ahead wr nn) gb 0 (flatK encP 2 d')) os) _
    rw [hfd]
    have hg := grownBy_sorted_c (w := wr) (g := gb) (n := nn) (os := os) (cellsP d'.toList).toArray
    have hrow' := ownsRow_sorted_c (n := nn) (os := os) (m := zs.length) (size := 2) (ts := cellsP d'.toList) (by rw [cellsP_len, hdl]) hbase hgb r1 r2 r3
    refine ⟨rfl, d'.toList, hperm, ?_, ⟨?_, hb.grown hg (by omega) (fun j hj => by cases hj; exact hbase), Nat.le_trans hB hg.size⟩, hg⟩
    · rw [List.pairwise_iff_getElem]
      intro i j hi hj hij
      rw [Array.length_toList, hp1] at hi hj
      have := hs i j (Nat.zero_le _) hij hj
      rw [ltP_iff, decide_eq_false_iff_not] at this
      rw [getElem!_pos d' j (by omega), getElem!_pos d' i (by omega)] at this
      simp only [Array.getElem_toList]
      exact this
    · rw [hdl]; exact hrow'

end Go.Proofs.Ytlknegihhcdhbaa

/- rising over a set of pairs: the walk. -/
namespace Go.Proofs.Ytlknegihhcdhbaa
open Go.RowKit
set_option linter.unusedVariables false
set_option linter.unusedSimpArgs false
set_option maxRecDepth 4000

theorem info_cellP : (Try.prog.info? 38).map (fun i => (i.zero, i.size, i.bytes)) = some (some (.agg #[.int .i64 0, .int .i64 0]), 2, 16) := by kernel_rfl
theorem elemP : ElemT 24 38 2 16 := ElemT.of Try.underlying24 info_cellP rfl (by decide)
theorem make_capP (w : World) (n : Nat) (hn : n ≤ 8796093022208) :
    ∃ w1, (Instr.makeSlice 24 (.int .i64 0) (.int .i64 (n : Int))).run Try.prog w = .ok (.slice (some ⟨w.heap.size, 0, none⟩) 0 n) w1 ∧ OwnP w.heap.size w w1 (.slice (some ⟨w.heap.size, 0, none⟩) 0 n) [] ∧ w.grownBy w1 none ∧ w1.heap.size = w.heap.size + 1 := by
  obtain ⟨i0, hi, hz0, hz1, hz2⟩ := info_parts info_cellP
  have h := run_make (P := Try.prog) w 24 38 i0 _ Try.underlying24 hi hz0 .i64 .i64 0 n (by omega) (by omega) (by rw [hz2]; omega) (by omega)
  simp only [Int.toNat_natCast] at h
  refine ⟨_, h, ⟨World.ownsRow_made w _ n (Nat.le_refl _) (by unfold maxLen; omega) (by simp [madeCells, hz1]), (Below.refl _ _).alloc (Nat.le_refl _) _, by simp⟩, World.grownBy_alloc w _ none, by simp⟩

def NoneLeft (left : Int × Int → Prop) : Prop := ∀ x, okP x → ¬ left x
def minusA (left : Int × Int → Prop) (x : Int × Int) : Int × Int → Prop := fun z => left z ∧ z ≠ x
/-- The step over pairs. -/
theorem wp_next_pair {ops : Array Oper} {rest : List Oper} {o : Oper} {a : Act} {Q : Exit → Act → World → Prop} (hgd : o.guard = none) (it : Operand)
    (ho : o.op = Op.next it false) (w : World) (b r n : Nat) (S left : Int × Int → Prop) (cnt : Nat) (h : IterA 38 pairLit okP w b r n S left cnt) (hit : a.eval it = .pointer (some ⟨r, 0, none⟩))
    (hDone : cnt = 0 → NoneLeft left → wpList Try.prog ops Q rest (a.put o.dst (.tuple #[.bool false])) w)
    (hMore : ∀ (p q : Int) (w' : World) (cnt' : Nat), Hid (okP (p, q)) → Hid (left (p, q)) → Hid (S (p, q)) → IterA 38 pairLit okP w' b r n S (minusA left (p, q)) cnt' → cnt' < cnt → w.grownBy w' (some r) → Hid (w'.heap.size = w.heap.size) →
      (Instr.entry (.pointer (some ⟨r, 0, none⟩))).run Try.prog w' = .ok (.tuple #[.agg #[.int .i64 p, .int .i64 q], .agg #[]]) w' → wpList Try.prog ops Q rest (a.put o.dst (.tuple #[.bool true, .agg #[.int .i64 p, .int .i64 q], .agg #[]])) w') : wpList Try.prog ops Q (o :: rest) a w :=
  wp_set_next keyP hgd it ho w b r n S left cnt h hit hDone fun x w' cnt' h1 h2 h3 h4 h5 h6 h7 h8 => hMore x.1 x.2 w' cnt' h1 h2 h3 h4 h5 h6 h7 h8

set_option maxHeartbeats 2000000 in
/-- rising(s, byFirst). -/
theorem risingP_any (b n : Nat) (S : Int × Int → Prop) (w : World) (h : SetP w b n S) (hn : n ≤ 8796093022208) :
    Calls Try.prog 61 #[.map (some b), .func (.func 62) #[] #[]] w fun e w' => ∃ v zs, e = .returned v ∧ OwnP w.heap.size w w' v zs ∧ zs.length ≤ n ∧ zs.Pairwise ltP ∧ (∀ x ∈ zs, okP x) ∧ ∀ x, okP x → (x ∈ zs ↔ S x) := by
  have hbl := h.lt
  obtain ⟨D, hD1, hD2⟩ := id h
  have Hc : Hid (Maps.size D ≤ n) := size_le hD1
  obtain ⟨c, HC⟩ : ∃ c, Hid (Maps.size D = c) := ⟨_, rfl⟩
  rw [HC.out] at Hc
  have hlen := fun o => hD1.len (P := Try.prog) Try.underlying56 o
  rw [HC.out] at hlen
  clear hD1 hD2
  obtain ⟨w1, hmk, hO1, hg1, hs1⟩ := make_capP w c (Nat.le_trans Hc.out hn)
  have h1 := h.kept hg1 (by simp)
  clear h
  go_enter Try.func61, Try.ntmps61
  go_wp2_with (at_range; refine wp_set_range keyP Try.underlying56 rfl _ rfl w1 b n S h1 rfl ?_; intro w2 cnt0 hcn hI2 hg2 hs2)
  go_frame
  have hO2 := hO1.trans (w2 := w2) ((Below.refl _ _).grown hg2 (Nat.le_refl _) (fun j hj => by cases hj))
  have H1 : Hid (w1.heap.size = w.heap.size + 1) := hs1
  rw [H1.out] at hI2 ⊢
  clear hO1 hg1 h1 hg2 hs2 hs1 hmk hlen
  go_loopg [5] cnt0 (fun gk v5 wr => ∃ (left : Int × Int → Prop) (v : Value) (zs : List (Int × Int)), v5 = v ∧ IterA 38 pairLit okP wr b (w.heap.size + 1) n S left gk ∧ OwnP w.heap.size w wr v zs ∧ zs.length + gk ≤ n ∧ Hid (Coll okP S left zs) ∧ Hid (∃ a c, v = .slice (some a) zs.length c))
  case atStart => exact ⟨S, _, [], rfl, hI2, hO2, by simpa using hcn, Coll.start, ⟨_, _, rfl⟩⟩
  case round =>
    clear hO2 hI2 hcn
    obtain ⟨left, v, zs, rfl, hI, hO, hzl, HCo, HV⟩ := hrel
    go_wp2_with (at_next; refine wp_next_pair rfl _ rfl wr b (w.heap.size + 1) n S left gk hI rfl ?_ ?_)
    · intro hc0 hl0
      have HD : Hid (zs.Nodup ∧ (∀ x ∈ zs, okP x) ∧ ∀ x, okP x → (x ∈ zs ↔ S x)) := HCo.out.done hl0
      go_wp2_with fail
      refine (sortFP_own _ _ _ u5 zs hO (by omega) HV.out).mono ?_
      rintro e w4 ⟨rfl, ts, hp, hs, hO4, hg4⟩
      go_wp2
      go_ret
      obtain ⟨q1, q2, q3⟩ := HD.out
      refine ⟨u5, ts, rfl, hO4, by rw [hp.length_eq]; omega, ?_, fun x hx => q2 x (hp.mem_iff.1 hx), fun x hx => by rw [hp.mem_iff]; exact q3 x hx⟩
      have hnd : ts.Nodup := hp.nodup_iff.2 q1
      refine pw_mono (fun x y hxy => ?_) (hs.and hnd)
      have h1 := hxy.1
      have h2 : ¬ (x.1 = y.1 ∧ x.2 = y.2) := fun q => hxy.2 (Prod.ext q.1 q.2)
      unfold ltP
      omega
    · intro p q w3 cnt' hx hlx hSx hI3 hlt hg3 hs3 hen
      have hO3 : OwnP w.heap.size w w3 u5 zs := ⟨hO.1.kept hg3 (.inr (hI.apart hO.1).symm), hO.2.1.grown hg3 hO.2.2 (fun j hj => by cases hj; omega), Nat.le_trans hO.2.2 hg3.size⟩
      have HC3 : Hid (Coll okP S (minusA left (p, q)) (zs ++ [(p, q)])) := HCo.out.step hx.out hlx.out hSx.out
      have hbl' : b ≠ w.heap.size + 1 := by omega
      have HA3 := hI3.apart hO3.1
      clear hI hO HCo HV hs3 hx hlx hSx
      have hOb : OwnP w.heap.size w (w3.alloc (.cells #[.int .i64 p, .int .i64 q] 38)) u5 zs := hO3.trans (below_new w3 _)
      have Hcs : Hid (∀ u ∈ (#[.int .i64 p, .int .i64 q] : Array Value).toList, u.oneCell' = true) := encP_one (p, q)
      have Hl1 : Hid (zs.length + 1 ≤ maxLen) := by show _ ≤ _; unfold maxLen; omega
      have Hl2 : Hid ((zs.length + 1) * 16 ≤ 140737488355328) := by show _ ≤ _; omega
      go_upto_region 5 with fail
      obtain ⟨c0, c1⟩ : (w3.alloc (.cells #[.int .i64 p, .int .i64 q] 38)).cell? ⟨w3.heap.size, 0, none⟩ = some (.int .i64 p) ∧ (w3.alloc (.cells #[.int .i64 p, .int .i64 q] 38)).cell? ⟨w3.heap.size, 1, none⟩ = some (.int .i64 q) := ⟨by rw [World.cell?_alloc_at _ _ _ _ rfl]; rfl, by rw [World.cell?_alloc_at _ _ _ _ rfl]; rfl⟩
      have hgb := World.grownBy_alloc w3 (.cells #[.int .i64 p, .int .i64 q] 38) none
      obtain ⟨wb, Hwb⟩ : ∃ v, Hid (w3.alloc (.cells #[.int .i64 p, .int .i64 q] 38) = v) := ⟨_, rfl⟩
      rw [Hwb.out] at c0 c1 hOb hgb ⊢
      have hO3b := hO3.1
      clear hO3
      go_wp2_with (at_builtin; go_loud (refine wp_append_cell1 elemP rfl _ _ rfl w.heap.size w wb u5 zs.length (cellsP zs) #[.int .i64 p, .int .i64 q] hOb rfl Hcs.out rfl rfl Hl1.out Hl2.out ?_; intro v' w4 hO4 hg4))
      have hga : w3.grownBy w4 u5.ownBlock := (hgb.but _).andThen hg4 (fun j e => .inr e)
      have hne : some b ≠ u5.ownBlock := row_ne_low hO3b hbl
      have hI4 := hI3.kept hga hne HA3
      have hO4' : OwnP w.heap.size w w4 v' (zs ++ [(p, q)]) := by
        show OwnC _ _ _ _ _ _ _ _
        rw [cellsP_append, List.length_append]
        exact hO4
      have HV4 : Hid (∃ a c, v' = .slice (some a) (zs ++ [(p, q)]).length c) := by
        rcases hO4'.1.2 with ⟨_, h0⟩ | ⟨g, cap, cur, e, _⟩
        · simp at h0
        · exact ⟨_, _, e⟩
      clear hO4 hg4 hga hI3 hg3 hOb hO3b c0 c1 hgb
      go_wp2
      go_roundg cnt'
      case measure => omega
      case rel => exact ⟨_, v', zs ++ [(p, q)], rfl, hI4, hO4', by simp; omega, HC3, HV4⟩

end Go.Proofs.Ytlknegihhcdhbaa

/- TracksSum: pairs held against each other as lists of two. -/
namespace Go.Proofs.Ytlknegihhcdhbaa
open Go.RowKit Go.Lib Go.Sort Go.Shelf
set_option linter.unusedVariables false
set_option linter.unusedSimpArgs false
set_option maxRecDepth 4000

/-- slices.Compare of two lists of two. -/
theorem compare2_any (x1 x2 y1 y2 : Int) (bx bY : Nat) (w : World) (h0 : w.cell? ⟨bx, 0, none⟩ = some (.int .i64 x1)) (h1 : w.cell? ⟨bx, 1, none⟩ = some (.int .i64 x2)) (k0 : w.cell? ⟨bY, 0, none⟩ = some (.int .i64 y1)) (k1 : w.cell? ⟨bY, 1, none⟩ = some (.int .i64 y2)) :
    Calls Try.prog 20 #[.slice (some ⟨bx, 0, none⟩) 2 2, .slice (some ⟨bY, 0, none⟩) 2 2] w fun e w' => e = .returned (.int .i64 (cmpP (x1, x2) (y1, y2))) ∧ w' = w := by
  have c1 : ∀ w, Calls Try.prog 50 #[.int .i64 x1, .int .i64 y1] w fun e w' => e = .returned (.int .i64 (cmpN x1 y1)) ∧ w' = w := fun w => compare_any x1 y1 w
  have c2 : ∀ w, Calls Try.prog 50 #[.int .i64 x2, .int .i64 y2] w fun e w' => e = .returned (.int .i64 (cmpN x2 y2)) ∧ w' = w := fun w => compare_any x2 y2 w
  have HP : Hid (cmpP (x1, x2) (y1, y2) = if cmpN x1 y1 = 0 then cmpN x2 y2 else cmpN x1 y1) := rfl
  rw [HP.out]
  generalize cmpN x1 y1 = p at c1 ⊢
  generalize cmpN x2 y2 = q at c2 ⊢
  clear HP
  go_enter Try.func20, Try.ntmps20
  go_wp2_with fail
  go_loopg [11] 2 (fun gk i' wr => ∃ k : Nat, k + gk = 2 ∧ i' = .int .i64 (k : Int) ∧ wr = w ∧ (1 ≤ k → p = 0) ∧ (2 ≤ k → q = 0))
  case atStart => exact ⟨0, rfl, rfl, rfl, by omega, by omega⟩
  case round =>
    obtain ⟨k, hk, rfl, rfl, hp, hq⟩ := hrel
    obtain rfl | rfl | rfl : k = 0 ∨ k = 1 ∨ k = 2 := by omega
    · by_cases hz : p = 0
      · subst hz
        go_wp2_with (go_at_call 50; refine (c1 _).mono ?_; rintro e w' ⟨rfl, rfl⟩)
        go_roundg 1
        case measure => omega
        case rel => exact ⟨1, by omega, rfl, rfl, by simp, by simp⟩
      · go_wp2_with (go_at_call 50; refine (c1 _).mono ?_; rintro e w' ⟨rfl, rfl⟩)
        go_ret
        exact ⟨by simp [hz], rfl⟩
    · obtain rfl := hp (by omega)
      by_cases hz : q = 0
      · subst hz
        go_wp2_with (go_at_call 50; refine (c2 _).mono ?_; rintro e w' ⟨rfl, rfl⟩)
        go_roundg 0
        case measure => omega
        case rel => exact ⟨2, by omega, rfl, rfl, by simp, by simp⟩
      · go_wp2_with (go_at_call 50; refine (c2 _).mono ?_; rintro e w' ⟨rfl, rfl⟩)
        go_ret
        exact ⟨by simp, rfl⟩
    · obtain rfl := hp (by omega)
      obtain rfl := hq (by omega)
      go_wp2
      go_ret
      exact ⟨by simp, rfl⟩

set_option maxHeartbeats 1000000 in
theorem sum1_any (x y : Int × Int) (W : World) : Calls Try.prog 19 #[.agg #[.int .i64 x.1, .int .i64 x.2], .agg #[.int .i64 y.1, .int .i64 y.2]] W fun e w' => e = .returned (.int .i64 (cmpP x y)) ∧ ∃ q os', w' = grow (W.drewN q) os' := by
  obtain ⟨x1, x2⟩ := x
  obtain ⟨y1, y2⟩ := y
  obtain ⟨c0, c1⟩ : (W.alloc (.cells #[.int .i64 x1, .int .i64 x2] 38)).cell? ⟨W.heap.size, 0, none⟩ = some (.int .i64 x1) ∧ (W.alloc (.cells #[.int .i64 x1, .int .i64 x2] 38)).cell? ⟨W.heap.size, 1, none⟩ = some (.int .i64 x2) := ⟨by rw [World.cell?_alloc_at _ _ _ _ rfl]; rfl, by rw [World.cell?_alloc_at _ _ _ _ rfl]; rfl⟩
  have hs1 : (W.alloc (.cells #[.int .i64 x1, .int .i64 x2] 38)).heap.size = W.heap.size + 1 := by simp
  obtain ⟨w1, H1⟩ : ∃ v, Hid (W.alloc (.cells #[.int .i64 x1, .int .i64 x2] 38) = v) := ⟨_, rfl⟩
  rw [H1.out] at c0 c1 hs1
  obtain ⟨b0, b1⟩ : (w1.alloc (.cells #[.int .i64 y1, .int .i64 y2] 38)).cell? ⟨w1.heap.size, 0, none⟩ = some (.int .i64 y1) ∧ (w1.alloc (.cells #[.int .i64 y1, .int .i64 y2] 38)).cell? ⟨w1.heap.size, 1, none⟩ = some (.int .i64 y2) := ⟨by rw [World.cell?_alloc_at _ _ _ _ rfl]; rfl, by rw [World.cell?_alloc_at _ _ _ _ rfl]; rfl⟩
  have a0 := ((below_new w1 (.cells #[.int .i64 y1, .int .i64 y2] 38)).cell (p := ⟨W.heap.size, 0, none⟩) (by show W.heap.size < _; omega)).trans c0
  have a1 := ((below_new w1 (.cells #[.int .i64 y1, .int .i64 y2] 38)).cell (p := ⟨W.heap.size, 1, none⟩) (by show W.heap.size < _; omega)).trans c1
  rw [hs1] at b0 b1
  clear c0 c1 hs1
  obtain ⟨w2, H2⟩ : ∃ v, Hid (w1.alloc (.cells #[.int .i64 y1, .int .i64 y2] 38) = v) := ⟨_, rfl⟩
  rw [H2.out] at a0 a1 b0 b1
  have hc : ∀ w, w.cell? ⟨W.heap.size, 0, none⟩ = some (.int .i64 x1) → w.cell? ⟨W.heap.size, 1, none⟩ = some (.int .i64 x2) → w.cell? ⟨W.heap.size + 1, 0, none⟩ = some (.int .i64 y1) → w.cell? ⟨W.heap.size + 1, 1, none⟩ = some (.int .i64 y2) → Calls Try.prog 20 #[.slice (some ⟨W.heap.size, 0, none⟩) 2 2, .slice (some ⟨W.heap.size + 1, 0, none⟩) 2 2] w fun e w' => e = .returned (.int .i64 (cmpP (x1, x2) (y1, y2))) ∧ w' = w := fun w q0 q1 q2 q3 => compare2_any x1 x2 y1 y2 _ _ w q0 q1 q2 q3
  generalize cmpP (x1, x2) (y1, y2) = r at hc ⊢
  go_enter Try.func19, Try.ntmps19
  go_upto_region 1 with fail
  rw [H1.out, H2.out]
  go_region_held3 (fun w' => w'.cell? ⟨W.heap.size, 0, none⟩ = some (.int .i64 x1) ∧ w'.cell? ⟨W.heap.size, 1, none⟩ = some (.int .i64 x2) ∧ w'.cell? ⟨W.heap.size + 1, 0, none⟩ = some (.int .i64 y1) ∧ w'.cell? ⟨W.heap.size + 1, 1, none⟩ = some (.int .i64 y2))
    (go_keep)
    ((go_at_call 20; refine (hc _ ?_ ?_ ?_ ?_).mono ?_; (first | assumption | skip); (first | assumption | skip); (first | assumption | skip); (first | assumption | skip); rintro e w' ⟨rfl, rfl⟩))
  all_goals
    go_wp2
    go_ret
    refine ⟨rfl, 1, #[.cells #[.int .i64 x1, .int .i64 x2] 38, .cells #[.int .i64 y1, .int .i64 y2] 38], ?_⟩
    rw [← H2.out, ← H1.out]
    show ((W.alloc _).alloc _).drewN 1 = _
    rw [alloc_eq_grow, alloc_eq_grow, grow_grow]
    rfl

theorem sum1_enters : ∀ args w, (callFunc 19 args).run Try.prog w = .ok (.enter 19 args) w := enters_of Try.func19 (by kernel_rfl) rfl
theorem cmpSum (blk off size : Nat) (w : World) : CmpLays Try.prog 19 #[] encP 2 cmpP blk off size w := fun _ _ _ _ x y => sum1_any x y _

/-- slices.SortFunc over a row of the call's own, by Compare of the lists of two. -/
theorem sortFS_own (B : Nat) (w wr : World) (v : Value) (zs : List (Int × Int)) (hO : OwnP B w wr v zs) (hl : zs.length ≤ 8796093022208) (hn : ∃ a c, v = .slice (some a) zs.length c) :
    Calls Try.prog 18 #[v, .func (.func 19) #[] #[]] wr fun e w' => e = .returned (.tuple #[]) ∧ ∃ ts, ts.Perm zs ∧ ts.Pairwise (fun x y => ¬ (y.1 < x.1 ∨ y.1 = x.1 ∧ y.2 < x.2)) ∧ OwnP B w w' v ts ∧ wr.grownBy w' v.ownBlock := by
  obtain ⟨hrow, hb, hB⟩ := hO
  rcases hrow.2 with ⟨rfl, hz⟩ | ⟨gb, cap, cur, rfl, hbase, hgb, r1, r2, r3, r4⟩
  · obtain ⟨a, c, e⟩ := hn; cases e
  · have hf : flatK encP 2 zs.toArray = (cellsP zs).toArray := by
      have := flat_cells zs.toArray
      rw [List.toList_toArray] at this
      rw [← this, Array.toArray_toList]
    have hH : HoldsK encP 2 wr gb 0 zs.toArray := by
      show Holds id wr gb 0 _
      rw [hf]
      exact holds_of_block_c hgb (by rw [cellsP_len]; exact r4)
    have hgl : gb < wr.heap.size := (Array.getElem?_eq_some_iff.1 hgb).1
    have hcon := AnyQ.slices_SortFunc sortFP 2 Try.isAgg38 Try.sizeOf38 encP (fun _ => rfl) encP_one cmpP swoP 19 #[] gb 0 cap zs.toArray wr sum1_enters (cmpSum gb 0 zs.toArray.size wr) hH hgl (by simp; omega)
    rw [List.size_toArray] at hcon
    refine Calls.mono hcon ?_
    rintro e w' ⟨rfl, d', nn, os, ⟨hp1, _, hp2⟩, hs, rfl⟩
    replace hp1 : d'.size = zs.length := by rw [← List.size_toArray]; exact hp1
    have hdl : d'.toList.length = zs.length := by rw [Array.length_toList, hp1]
    have hperm : d'.toList.Perm zs := by
      have e1 : (d'.extract 0 zs.length).toList = d'.toList := by rw [← hp1]; simp
      have e2 : (zs.toArray.extract 0 zs.length).toList = zs := by simp
      rw [e1, e2] at hp2
      exact hp2
    have hfd : flatK encP 2 d' = (cellsP d'.toList).toArray := by rw [← flat_cells d', Array.toArray_toList]
    show _ ∧ ∃ ts, _ ∧ _ ∧ OwnP B w (grow (putRow id (Sort.ahead wr nn) gb 0 (flatK encP 2 d')) os) _ ts ∧ wr.grownBy (grow (putRow id (Sort.ahead wr nn) gb 0 (flatK encP 2 d')) os) _
    rw [hfd]
    have hg := grownBy_sorted_c (w := wr) (g := gb) (n := nn) (os := os) (cellsP d'.toList).toArray
    have hrow' := ownsRow_sorted_c (n := nn) (os := os) (m := zs.length) (size := 2) (ts := cellsP d'.toList) (by rw [cellsP_len, hdl]) hbase hgb r1 r2 r3
    refine ⟨rfl, d'.toList, hperm, ?_, ⟨?_, hb.grown hg (by omega) (fun j hj => by cases hj; exact hbase), Nat.le_trans hB hg.size⟩, hg⟩
    · rw [List.pairwise_iff_getElem]
      intro i j hi hj hij
      rw [Array.length_toList, hp1] at hi hj
      have := hs i j (Nat.zero_le _) hij hj
      rw [ltP_iff, decide_eq_false_iff_not] at this
      rw [getElem!_pos d' j (by omega), getElem!_pos d' i (by omega)] at this
      simp only [Array.getElem_toList]
      exact this
    · rw [hdl]; exact hrow'

end Go.Proofs.Ytlknegihhcdhbaa

/- slices.SortFunc over no pair. -/
namespace Go.Proofs.Ytlknegihhcdhbaa
open Go.RowKit Go.Lib
set_option linter.unusedVariables false
set_option linter.unusedSimpArgs false
set_option maxRecDepth 100000

set_option maxHeartbeats 2000000 in
theorem len64_zero (w : World) : Calls Try.prog 73 #[.int .u64 0] w fun e w' => e = .returned (.int .i64 0) ∧ w' = w := by
  go_enter Try.func73, Try.ntmps73
  go_wp2
  go_ret
  exact ⟨congrArg (fun z => Ending.returned (Value.int .i64 z)) (by decide +kernel), rfl⟩
theorem len_zero (w : World) : Calls Try.prog 49 #[.int .u64 0] w fun e w' => e = .returned (.int .i64 0) ∧ w' = w := by
  go_enter Try.func49, Try.ntmps49
  go_wp2_with (go_at_call 73; refine (len64_zero _).mono ?_; rintro e w' ⟨rfl, rfl⟩)
  go_ret
  exact ⟨rfl, rfl⟩
theorem insert_none (p : Option Addr) (cap : Nat) (f : Value) (w : World) : Calls Try.prog 64 #[.slice p 0 cap, .int .i64 0, .int .i64 0, f] w fun e w' => e = .returned (.tuple #[]) ∧ w' = w := by
  go_enter Try.func64, Try.ntmps64
  go_wp2_with fail
  go_loopg [8] 0 (fun gk i wr => gk = 0 ∧ i = .int .i64 1 ∧ wr = w)
  case atStart => exact ⟨rfl, rfl, rfl⟩
  case round =>
    obtain ⟨rfl, rfl, rfl⟩ := hrel
    go_wp2
    go_end0
    exact ⟨rfl, rfl⟩
theorem pdq_none (p : Option Addr) (cap : Nat) (f : Value) (w : World) : Calls Try.prog 48 #[.slice p 0 cap, .int .i64 0, .int .i64 0, .int .i64 0, f] w fun e w' => e = .returned (.tuple #[]) ∧ w' = w := by
  go_enter Try.func48, Try.ntmps48
  go_wp2_with fail
  go_loopg [1, 2] 0 (fun gk i j wr => gk = 0 ∧ i = .int .i64 0 ∧ j = .int .i64 0 ∧ wr = w)
  case atStart => exact ⟨rfl, rfl, rfl, rfl⟩
  case round =>
    obtain ⟨rfl, rfl, rfl, rfl⟩ := hrel
    go_wp2_with (go_at_call 64; refine (insert_none _ _ _ _).mono ?_; rintro e w' ⟨rfl, rfl⟩)
    (try simp only [Exit.inBlock, Exit.then])
    refine bodyPost_ret (results_none rfl _ _ _) rfl ?_
    exact ⟨rfl, rfl⟩
theorem sortFunc_none (p : Option Addr) (cap : Nat) (f : Value) (w : World) : Calls Try.prog 18 #[.slice p 0 cap, f] w fun e w' => e = .returned (.tuple #[]) ∧ w' = w := by
  go_enter Try.func18, Try.ntmps18
  go_wp2_with (first
    | (go_at_call 49; refine (len_zero _).mono ?_; rintro e w' ⟨rfl, rfl⟩)
    | (go_at_call 48; refine (pdq_none _ _ _ _).mono ?_; rintro e w' ⟨rfl, rfl⟩))
  go_end0
  exact ⟨rfl, rfl⟩

/-- slices.SortFunc over a row of the call's own, nil or not. -/
theorem sortFS_any (B : Nat) (w wr : World) (v : Value) (zs : List (Int × Int)) (hO : OwnP B w wr v zs) (hl : zs.length ≤ 8796093022208) :
    Calls Try.prog 18 #[v, .func (.func 19) #[] #[]] wr fun e w' => e = .returned (.tuple #[]) ∧ ∃ ts, ts.Perm zs ∧ ts.Pairwise (fun x y => ¬ (y.1 < x.1 ∨ y.1 = x.1 ∧ y.2 < x.2)) ∧ OwnP B w w' v ts := by
  rcases hO.1.2 with ⟨rfl, hz⟩ | ⟨gb, cap, cur, rfl, _⟩
  · have e : zs = [] := List.length_eq_zero_iff.1 hz
    subst e
    refine (sortFunc_none none 0 _ wr).mono ?_
    rintro e w' ⟨rfl, rfl⟩
    exact ⟨rfl, [], List.Perm.refl _, List.Pairwise.nil, hO⟩
  · refine (sortFS_own B w wr _ zs hO hl ⟨_, _, rfl⟩).mono ?_
    rintro e w' ⟨rfl, ts, h1, h2, h3, _⟩
    exact ⟨rfl, ts, h1, h2, h3⟩

end Go.Proofs.Ytlknegihhcdhbaa
