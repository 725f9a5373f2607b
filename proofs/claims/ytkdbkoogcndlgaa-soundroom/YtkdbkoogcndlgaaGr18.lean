import Derived.Test.YtkdbkoogcndlgaaReachKey
import Derived.Test.YtkdbkoogcndlgaaGr03
import Derived.Test.YtkdbkoogcndlgaaGr05
/- A mark's key, as the model reads it; what a map from marks to numbers holds. -/
namespace Go.Proofs.Ytkdbkoogcndlgaa
open Go.RowKit Go.Maps Go.WideMaps
set_option linter.unusedVariables false
set_option maxRecDepth 4000

theorem mapM_all {α β : Type} {f : α → Option β} {g : α → β} : ∀ (L : List α), (∀ x ∈ L, f x = some (g x)) → L.mapM f = some (L.map g)
  | [], _ => rfl
  | x :: r, h => by rw [List.mapM_cons, h x (by simp), mapM_all r fun y hy => h y (by simp [hy])]; rfl

theorem flatten_single {α β : Type} (f : α → β) (l : List α) : (l.map fun i => [f i]).flatten = l.map f := by
  induction l with
  | nil => rfl
  | cons x r ih => simp [ih]

theorem key_type : ArrKey Try.prog 68 3 16 := ⟨Try.underlying68, by kernel_rfl, by kernel_rfl, by kernel_rfl⟩
theorem key_law : Keyed Try.prog 68 := Keyed.of_law key_type.law

/-- A number that a word holds. -/
def inWord (z : Int) : Prop := -9223372036854775808 ≤ z ∧ z ≤ 9223372036854775807

theorem wf_word {z : Int} (h : (Lit.int .i64 z).wf = true) : inWord z := by
  simp [Lit.wf, IntKind.min, IntKind.max, IntKind.signed, IntKind.bits] at h
  unfold inWord
  omega

/-- What a mark's key is. -/
def keyLit (xs : List Int) : Lit := .string (keyBytes ((padL xs).map (Lit.int .i64)))

theorem keyOf_pad (xs : List Int) (h : ∀ z ∈ xs, inWord z) : keyOf Try.prog 68 (.agg (padV xs).toArray) = some (keyLit xs) := by
  have hw : ∀ j, (Lit.int .i64 (nth xs j)).wf = true := by
    intro j
    apply WalkArith.wf_i64
    unfold nth
    rcases Nat.lt_or_ge j xs.length with hj | hj
    · simp only [List.getD, List.getElem?_eq_getElem hj, Option.getD_some]
      have := h _ (List.getElem_mem hj)
      unfold inWord at this
      omega
    · simp [List.getD, List.getElem?_eq_none hj]
  have A := key_type
  obtain ⟨m, hm⟩ : ∃ m, Try.prog.types.size = m + 1 := ⟨Try.prog.types.size - 1, by have : 0 < Try.prog.types.size := of_decide_eq_true (by kernel_rfl); omega⟩
  have hkt := A.keyType ⟨m, hm⟩
  have he := Try.underlying3
  unfold keyOf
  simp only [A.hu]
  rw [if_pos (by simp [hkt, Value.formed, A.hu, A.size, padV, padL]), hm]
  unfold Program.keyLits
  simp only [A.hu, Value.cells]
  rw [if_pos (by rw [A.size]; simp [padV, padL])]
  have e : ((List.range 16).mapM fun i => Try.prog.keyLits (m + 1) 3 (((padV xs).toArray.toList.drop (i * Try.prog.cellsOf 3)).take (Try.prog.cellsOf 3))) = some ((List.range 16).map fun i => [Lit.int .i64 (nth xs i)]) := by
    apply mapM_all
    intro i hi
    have hi16 : i < 16 := by simpa using hi
    rw [A.one]
    have e1 : ((padV xs).toArray.toList.drop (i * 1)).take 1 = [Value.int .i64 (nth xs i)] := by
      have hl : (padV xs).length = 16 := by simp [padV, padL]
      rw [List.drop_eq_getElem_cons (by simp [hl]; omega)]
      simp [padV, padL]
    rw [e1]
    unfold Program.keyLits
    simp [he, hw]
  rw [e]
  simp only [Option.map_some, keyLit, padL, List.map_map, flatten_single]
  rfl

theorem keyLit_inj {xs ys : List Int} (hx : ∀ z ∈ xs, inWord z) (hy : ∀ z ∈ ys, inWord z) (hl : xs.length = ys.length) (h16 : xs.length ≤ 16) (e : keyLit xs = keyLit ys) : xs = ys := by
  have h1 := keyOf_pad xs hx
  have h2 := keyOf_pad ys hy
  rw [← e] at h2
  have h3 := key_law.inj h1 h2
  injection h3 with h3
  have h4 : padV xs = padV ys := by simpa using h3
  apply eq_of_nth xs ys hl
  intro j hj
  have h5 : (padV xs)[j]? = (padV ys)[j]? := by rw [h4]
  have hj16 : j < 16 := by omega
  simpa [padV, padL, hj16] using h5

theorem right_word {xs : List Int} (h : rightL xs = true) : ∀ z ∈ xs, inWord z := by
  intro z hz
  obtain ⟨j, hj, e⟩ := List.getElem_of_mem hz
  have := okTok_nth h j
  have e2 : nth xs j = z := by simp [nth, List.getD, List.getElem?_eq_getElem hj, e]
  rw [e2] at this
  unfold inWord
  omega

/-- What the map from marks to numbers says, of marks of P places. -/
structure Says (P : Nat) (ms : List (List Int)) (D : DataW Unit) : Prop where
  yes : ∀ x g, x.length = P → (∀ z ∈ x, inWord z) → findM ms x = some g → has D (keyLit x) = true ∧ D.atKey (keyLit x) (.lit (.int .i64 0)) = .lit (.int .i64 (g : Int))
  no : ∀ x, x.length = P → (∀ z ∈ x, inWord z) → findM ms x = none → has D (keyLit x) = false

theorem says_nil (P : Nat) : Says P [] (.map []) := ⟨fun x g _ _ h => by simp [findM] at h, fun x _ _ _ => rfl⟩

theorem findM_append {ms : List (List Int)} {x z : List Int} : findM (ms ++ [z]) x = match findM ms x with | some g => some g | none => if z = x then some ms.length else none := by
  unfold findM
  rw [List.findIdx?_append]
  cases h : ms.findIdx? (· == x) with
  | some g => rfl
  | none =>
    by_cases e : z = x
    · subst e; simp [List.findIdx?_cons]
    · have e2 : (z == x) = false := by simpa using e
      simp [List.findIdx?_cons, e]

theorem Says.put {P : Nat} {ms : List (List Int)} {D : DataW Unit} (h : Says P ms D) (hP : P ≤ 16) (hD : IsMap D) {z : List Int} (hz : z.length = P) (hw : ∀ y ∈ z, inWord y) (hn : findM ms z = none) :
    Says P (ms ++ [z]) (D.put (keyLit z) (.lit (.int .i64 (ms.length : Int)))) := by
  have hk : WideAt.IsKeyLit (keyLit z) := trivial
  refine ⟨fun x g hx hwx hf => ?_, fun x hx hwx hf => ?_⟩
  · rw [findM_append] at hf
    by_cases e : z = x
    · subst e
      rw [hn] at hf
      simp at hf
      subst hf
      exact ⟨has_put_same hD hk _, atKey_put_same hD hk _ _⟩
    · have hne : keyLit x ≠ keyLit z := fun q => e (keyLit_inj hw hwx (by omega) (by omega) q.symm)
      cases hq : findM ms x with
      | none => rw [hq] at hf; simp [e] at hf
      | some g' =>
        rw [hq] at hf
        injection hf with hf
        subst hf
        rw [has_put_other hne, atKey_put_other hne]
        exact h.yes x g' hx hwx hq
  · rw [findM_append] at hf
    by_cases e : z = x
    · subst e; rw [hn] at hf; simp at hf
    · have hne : keyLit x ≠ keyLit z := fun q => e (keyLit_inj hw hwx (by omega) (by omega) q.symm)
      cases hq : findM ms x with
      | some g' => rw [hq] at hf; simp at hf
      | none => rw [has_put_other hne]; exact h.no x hx hwx hq

end Go.Proofs.Ytkdbkoogcndlgaa

/- A search of package reach while it goes on: where it lies, and what it hangs on. -/
namespace Go.Proofs.Ytkdbkoogcndlgaa
open Go.RowKit Go.Maps
set_option linter.unusedVariables false
set_option maxRecDepth 4000

/-- All that hangs on blocks outside S still does, outside S', and reads as it did. -/
structure Keeps (w : World) (S : Nat → Prop) (w' : World) (S' : Nat → Prop) : Prop where
  size : w.heap.size ≤ w'.heap.size
  block : ∀ k, k < w.heap.size → ¬ S k → w'.heap[k]? = w.heap[k]? ∧ ¬ S' k

theorem Keeps.on {w w' : World} {S S' : Nat → Prop} {R : World → Prop} (h : Keeps w S w' S') (hR : On (fun k => ¬ S k) w R) : On (fun k => ¬ S' k) w' R :=
  fun w2 hs hk => hR w2 (Nat.le_trans h.size hs) fun k hlt hS => (hk k (Nat.lt_of_lt_of_le hlt h.1) (h.2 k hlt hS).2).trans (h.2 k hlt hS).1
theorem Keeps.onE {w w' : World} {S S' E : Nat → Prop} {R : World → Prop} (h : Keeps w S w' S') (hR : On (fun k => E k ∧ ¬ S k) w R) : On (fun k => E k ∧ ¬ S' k) w' R :=
  fun w2 hs hk => hR w2 (Nat.le_trans h.size hs) fun k hlt hS => (hk k (Nat.lt_of_lt_of_le hlt h.size) ⟨hS.1, (h.block k hlt hS.2).2⟩).trans (h.block k hlt hS.2).1
theorem Keeps.refl (w : World) (S : Nat → Prop) : Keeps w S w S := ⟨Nat.le_refl _, fun k _ h => ⟨rfl, h⟩⟩
theorem Keeps.trans {w w1 w2 : World} {S S1 S2 : Nat → Prop} (h : Keeps w S w1 S1) (g : Keeps w1 S1 w2 S2) : Keeps w S w2 S2 :=
  ⟨Nat.le_trans h.1 g.1, fun k hlt hS => ⟨(g.2 k (Nat.lt_of_lt_of_le hlt h.1) (h.2 k hlt hS).2).1.trans (h.2 k hlt hS).1, (g.2 k (Nat.lt_of_lt_of_le hlt h.1) (h.2 k hlt hS).2).2⟩⟩
theorem Keeps.below {w w' : World} (hb : Below w.heap.size w w') (S : Nat → Prop) : Keeps w S w' S := ⟨hb.size, fun k hlt h => ⟨hb.block k hlt, h⟩⟩

/-- The blocks that a search writes. -/
def mineS (x mb : Nat) (mv av bv : Value) (k : Nat) : Prop := k = x ∨ k = mb ∨ mv.ownBlock = some k ∨ av.ownBlock = some k ∨ bv.ownBlock = some k

theorem setCell_block {w : World} {x i : Nat} {cs : Array Value} {t : TypeId} {fr : Nat × Nat} (h : w.heap[x]? = some (.cells cs t fr)) (u : Value) :
    (w.setCell ⟨x, i, none⟩ u).heap[x]? = some (.cells (cs.setIfInBounds i u) t fr) := by
  rw [setCell_eq_setRow w x i cs t fr u h]
  exact setRow_heap w x cs _ t fr h

/-- A row grows, and the cell that holds it is written. -/
theorem grow_at {x i : Nat} {wr wC : World} {v v' : Value} {cs : Array Value} {t : TypeId} (hx : x < wr.heap.size) (hg : wr.grownBy wC v.ownBlock) (hv : v.ownBlock ≠ some x) (hc : wr.heap[x]? = some (.cells cs t (0, 0))) :
    (wC.setCell ⟨x, i, none⟩ v').heap[x]? = some (.cells (cs.setIfInBounds i v') t (0, 0)) ∧ wr.heap.size ≤ (wC.setCell ⟨x, i, none⟩ v').heap.size ∧
      ∀ k, k < wr.heap.size → k ≠ x → v.ownBlock ≠ some k → (wC.setCell ⟨x, i, none⟩ v').heap[k]? = wr.heap[k]? := by
  refine ⟨setCell_block ((hg.block x hx fun e => hv e.symm).trans hc) v', Nat.le_trans hg.size (by simp [World.setCell]), fun k hlt hk hr => ?_⟩
  exact grown_set hg ⟨x, i, none⟩ rfl v' hlt hk hr

/-- A search: its struct lies at block x, its map at block mb; its rows are its own; its marks hang on none of these, and on nothing older than block A. -/
structure SearchAt (A x mb B : Nat) (M : Int) (W wr : World) (ms : List (List Int)) (ar bys : List ArcL) (c : Nat) (D : DataW Unit) (mv av bv : Value) (us : List Value) : Prop where
  rowM : wr.ownsRow B 25 1 mv us.length us
  rowA : wr.ownsRow B 79 3 av ar.length (arcCells ar)
  rowB : wr.ownsRow B 79 3 bv bys.length (arcCells bys)
  map : wr.ownsMap Try.prog 68 (plainElem Try.prog 3) mb c D
  below : Below B W wr
  hA : A ≤ B
  hx : B ≤ x
  hmb : B ≤ mb
  hlt : x < wr.heap.size
  cells : wr.heap[x]? = some (.cells #[.int .i64 M, mv, av, .map (some mb), bv] 63 (0, 0))
  ne : x ≠ mb
  apM : mv.ownBlock ≠ some x ∧ mv.ownBlock ≠ some mb
  apA : av.ownBlock ≠ some x ∧ av.ownBlock ≠ some mb
  apB : bv.ownBlock ≠ some x ∧ bv.ownBlock ≠ some mb
  apMA : ∀ k, mv.ownBlock = some k → av.ownBlock ≠ some k
  apMB : ∀ k, mv.ownBlock = some k → bv.ownBlock ≠ some k
  apAB : ∀ k, av.ownBlock = some k → bv.ownBlock ≠ some k
  len : us.length = ms.length
  els : ∀ j (hj : j < us.length), us[j].oneCell' = true ∧ On (fun k => A ≤ k ∧ ¬ mineS x mb mv av bv k) wr (fun w' => Ints w' us[j] (markAt ms j))

section
variable {A x mb B : Nat} {M : Int} {W wr : World} {ms : List (List Int)} {ar bys : List ArcL} {c : Nat} {D : DataW Unit} {mv av bv : Value} {us : List Value}

theorem SearchAt.to {w' : World} (h : SearchAt A x mb B M W wr ms ar bys c D mv av bv us) (hb : Below wr.heap.size wr w') : SearchAt A x mb B M W w' ms ar bys c D mv av bv us :=
  { h with
    rowM := ((ownsRow_on h.rowM).below hb).now
    rowA := ((ownsRow_on h.rowA).below hb).now
    rowB := ((ownsRow_on h.rowB).below hb).now
    map := by obtain ⟨es, cl, h1, h2⟩ := h.map; exact ⟨es, cl, by rw [hb.block mb (Array.getElem?_eq_some_iff.1 h1).1]; exact h1, h2⟩
    below := h.below.trans (hb.mono (Nat.le_trans h.hx (Nat.le_of_lt h.hlt)))
    hlt := Nat.lt_of_lt_of_le h.hlt hb.size
    cells := by rw [hb.block x h.hlt]; exact h.cells
    els := fun j hj => ⟨(h.els j hj).1, (h.els j hj).2.below hb⟩ }

theorem SearchAt.base (h : SearchAt A x mb B M W wr ms ar bys c D mv av bv us) : B ≤ wr.heap.size := Nat.le_trans h.hx (Nat.le_of_lt h.hlt)

/-- One more entry in the map. -/
theorem SearchAt.mapped {w1 : World} {c' : Nat} {D' : DataW Unit} (h : SearchAt A x mb B M W wr ms ar bys c D mv av bv us) (hm : w1.ownsMap Try.prog 68 (plainElem Try.prog 3) mb c' D') (hg : wr.grownBy w1 (some mb)) :
    SearchAt A x mb B M W w1 ms ar bys c' D' mv av bv us ∧ Keeps wr (mineS x mb mv av bv) w1 (mineS x mb mv av bv) := by
  have hK : Keeps wr (mineS x mb mv av bv) w1 (mineS x mb mv av bv) := ⟨hg.size, fun k hlt hk => ⟨hg.block k hlt (fun e => hk (.inr (.inl (by injection e)))), hk⟩⟩
  refine ⟨{ h with
    rowM := ((ownsRow_on h.rowM).grown hg fun k _ hk e => h.apM.2 (by rw [← e]; exact hk.1)).now
    rowA := ((ownsRow_on h.rowA).grown hg fun k _ hk e => h.apA.2 (by rw [← e]; exact hk.1)).now
    rowB := ((ownsRow_on h.rowB).grown hg fun k _ hk e => h.apB.2 (by rw [← e]; exact hk.1)).now
    map := hm
    below := h.below.grown hg h.base (fun k hk => by injection hk with hk; subst hk; exact h.hmb)
    hlt := Nat.lt_of_lt_of_le h.hlt hg.size
    cells := by rw [hg.block x h.hlt (fun e => h.ne (by injection e))]; exact h.cells
    els := fun j hj => ⟨(h.els j hj).1, hK.onE (h.els j hj).2⟩ }, hK⟩

/-- One more mark. -/
theorem SearchAt.mark {wC : World} {mv' r : Value} {z : List Int} (h : SearchAt A x mb B M W wr ms ar bys c D mv av bv us) (h1 : r.oneCell' = true)
    (hr : On (fun k => A ≤ k ∧ ¬ mineS x mb mv av bv k) wr (fun w' => Ints w' r z))
    (hown : wC.ownsRow B 25 1 mv' (us.length + 1) (us ++ [r])) (hg : wr.grownBy wC mv.ownBlock) (hat : mv'.ownBlock = mv.ownBlock ∨ mv'.ownBlock = some wr.heap.size) :
    SearchAt A x mb B M W (wC.setCell ⟨x, 1, none⟩ mv') (ms ++ [z]) ar bys c D mv' av bv (us ++ [r]) ∧ Keeps wr (mineS x mb mv av bv) (wC.setCell ⟨x, 1, none⟩ mv') (mineS x mb mv' av bv) := by
  obtain ⟨hc, hsz, hk⟩ := grow_at (i := 1) (v' := mv') h.hlt hg h.apM.1 h.cells
  have hmlt := h.map.lt
  have hA : ∀ k, av.ownBlock = some k → B ≤ k ∧ k < wr.heap.size := fun k hk => ownsRow_lt h.rowA hk
  have hB : ∀ k, bv.ownBlock = some k → B ≤ k ∧ k < wr.heap.size := fun k hk => ownsRow_lt h.rowB hk
  have hM : ∀ k, mv.ownBlock = some k → B ≤ k ∧ k < wr.heap.size := fun k hk => ownsRow_lt h.rowM hk
  have ap' : ∀ k, k < wr.heap.size → mv.ownBlock ≠ some k → mv'.ownBlock ≠ some k := by
    intro k hlt hne
    rcases hat with e | e <;> rw [e]
    · exact hne
    · simp; omega
  have apx := ap' x h.hlt h.apM.1
  have hK : Keeps wr (mineS x mb mv av bv) (wC.setCell ⟨x, 1, none⟩ mv') (mineS x mb mv' av bv) := by
    refine ⟨hsz, fun k hlt hn => ⟨hk k hlt (fun e => hn (.inl e)) (fun e => hn (.inr (.inr (.inl e)))), ?_⟩⟩
    rintro (e | e | e | e)
    · exact hn (.inl e)
    · exact hn (.inr (.inl e))
    · exact ap' k hlt (fun e => hn (.inr (.inr (.inl e)))) e
    · exact hn (.inr (.inr (.inr e)))
  refine ⟨⟨?_, ?_, ?_, ?_, ?_, h.hA, h.hx, h.hmb, Nat.lt_of_lt_of_le h.hlt hsz, by simpa using hc, h.ne, ⟨apx, ap' mb hmlt h.apM.2⟩, h.apA, h.apB, ?_, ?_, h.apAB, by simp [h.len], fun j hj => ?_⟩, hK⟩
  · have := (ownsRow_on hown).set (a := ⟨x, 1, none⟩) (fun e => apx e.1) mv'
    simpa using this.now
  · exact ((ownsRow_on h.rowA).to hsz fun k hlt q => hk k hlt (fun e => h.apA.1 (by rw [← e]; exact q.1)) (fun e => h.apMA k e q.1)).now
  · exact ((ownsRow_on h.rowB).to hsz fun k hlt q => hk k hlt (fun e => h.apB.1 (by rw [← e]; exact q.1)) (fun e => h.apMB k e q.1)).now
  · obtain ⟨es, cl, m1, m2⟩ := h.map
    exact ⟨es, cl, by rw [hk mb hmlt (fun e => h.ne e.symm) h.apM.2]; exact m1, m2⟩
  · exact (h.below.grown hg h.base (fun k hk => (hM k hk).1)).setCell (p := ⟨x, 1, none⟩) h.hx _
  · intro k hk e
    rcases hat with q | q
    · rw [q] at hk; exact h.apMA k hk e
    · rw [q] at hk; injection hk with hk; have := (hA k e).2; omega
  · intro k hk e
    rcases hat with q | q
    · rw [q] at hk; exact h.apMB k hk e
    · rw [q] at hk; injection hk with hk; have := (hB k e).2; omega
  · by_cases hjl : j < us.length
    · rw [List.getElem_append_left hjl]
      refine ⟨(h.els j hjl).1, ?_⟩
      rw [markAt_append (by rw [← h.len]; exact hjl)]
      exact hK.onE (h.els j hjl).2
    · have e : j = us.length := by simp at hj; omega
      subst e
      rw [List.getElem_append_right (Nat.le_refl _)]
      simp only [Nat.sub_self, List.getElem_cons_zero]
      refine ⟨h1, ?_⟩
      rw [h.len, markAt_last]
      exact hK.onE hr

/-- One more arc. -/
theorem SearchAt.arc {wC : World} {av' : Value} {a : ArcL} (h : SearchAt A x mb B M W wr ms ar bys c D mv av bv us)
    (hown : wC.ownsRow B 79 3 av' (ar.length + 1) (arcCells ar ++ [.int .i64 (a.frm : Int), .int .i64 (a.tran : Int), .int .i64 (a.dst : Int)])) (hg : wr.grownBy wC av.ownBlock) (hat : av'.ownBlock = av.ownBlock ∨ av'.ownBlock = some wr.heap.size) :
    SearchAt A x mb B M W (wC.setCell ⟨x, 2, none⟩ av') ms (ar ++ [a]) bys c D mv av' bv us ∧ Keeps wr (mineS x mb mv av bv) (wC.setCell ⟨x, 2, none⟩ av') (mineS x mb mv av' bv) := by
  obtain ⟨hc, hsz, hk⟩ := grow_at (i := 2) (v' := av') h.hlt hg h.apA.1 h.cells
  have hmlt := h.map.lt
  have hA : ∀ k, av.ownBlock = some k → B ≤ k ∧ k < wr.heap.size := fun k hk => ownsRow_lt h.rowA hk
  have hB : ∀ k, bv.ownBlock = some k → B ≤ k ∧ k < wr.heap.size := fun k hk => ownsRow_lt h.rowB hk
  have hM : ∀ k, mv.ownBlock = some k → B ≤ k ∧ k < wr.heap.size := fun k hk => ownsRow_lt h.rowM hk
  have ap' : ∀ k, k < wr.heap.size → av.ownBlock ≠ some k → av'.ownBlock ≠ some k := by
    intro k hlt hne
    rcases hat with e | e <;> rw [e]
    · exact hne
    · simp; omega
  have apx := ap' x h.hlt h.apA.1
  have hK : Keeps wr (mineS x mb mv av bv) (wC.setCell ⟨x, 2, none⟩ av') (mineS x mb mv av' bv) := by
    refine ⟨hsz, fun k hlt hn => ⟨hk k hlt (fun e => hn (.inl e)) (fun e => hn (.inr (.inr (.inr (.inl e))))), ?_⟩⟩
    rintro (e | e | e | e | e)
    · exact hn (.inl e)
    · exact hn (.inr (.inl e))
    · exact hn (.inr (.inr (.inl e)))
    · exact ap' k hlt (fun e => hn (.inr (.inr (.inr (.inl e))))) e
    · exact hn (.inr (.inr (.inr (.inr e))))
  refine ⟨⟨?_, ?_, ?_, ?_, ?_, h.hA, h.hx, h.hmb, Nat.lt_of_lt_of_le h.hlt hsz, by simpa using hc, h.ne, h.apM, ⟨apx, ap' mb hmlt h.apA.2⟩, h.apB, ?_, h.apMB, ?_, h.len, fun j hj => ⟨(h.els j hj).1, hK.onE (h.els j hj).2⟩⟩, hK⟩
  · exact ((ownsRow_on h.rowM).to hsz fun k hlt q => hk k hlt (fun e => h.apM.1 (by rw [← e]; exact q.1)) (h.apMA k q.1)).now
  · have := (ownsRow_on hown).set (a := ⟨x, 2, none⟩) (fun e => apx e.1) av'
    rw [arcCells_append]
    simpa using this.now
  · exact ((ownsRow_on h.rowB).to hsz fun k hlt q => hk k hlt (fun e => h.apB.1 (by rw [← e]; exact q.1)) (fun e => h.apAB k e q.1)).now
  · obtain ⟨es, cl, m1, m2⟩ := h.map
    exact ⟨es, cl, by rw [hk mb hmlt (fun e => h.ne e.symm) h.apA.2]; exact m1, m2⟩
  · exact (h.below.grown hg h.base (fun k hk => (hA k hk).1)).setCell (p := ⟨x, 2, none⟩) h.hx _
  · intro k hk e
    rcases hat with q | q
    · rw [q] at e; exact h.apMA k hk e
    · rw [q] at e; injection e with e; have := (hM k hk).2; omega
  · intro k hk e
    rcases hat with q | q
    · rw [q] at hk; exact h.apAB k hk e
    · rw [q] at hk; injection hk with hk; have := (hB k e).2; omega

/-- One more that tells how a mark was found. -/
theorem SearchAt.by {wC : World} {bv' : Value} {a : ArcL} (h : SearchAt A x mb B M W wr ms ar bys c D mv av bv us)
    (hown : wC.ownsRow B 79 3 bv' (bys.length + 1) (arcCells bys ++ [.int .i64 (a.frm : Int), .int .i64 (a.tran : Int), .int .i64 (a.dst : Int)])) (hg : wr.grownBy wC bv.ownBlock) (hat : bv'.ownBlock = bv.ownBlock ∨ bv'.ownBlock = some wr.heap.size) :
    SearchAt A x mb B M W (wC.setCell ⟨x, 4, none⟩ bv') ms ar (bys ++ [a]) c D mv av bv' us ∧ Keeps wr (mineS x mb mv av bv) (wC.setCell ⟨x, 4, none⟩ bv') (mineS x mb mv av bv') := by
  obtain ⟨hc, hsz, hk⟩ := grow_at (i := 4) (v' := bv') h.hlt hg h.apB.1 h.cells
  have hmlt := h.map.lt
  have hA : ∀ k, av.ownBlock = some k → B ≤ k ∧ k < wr.heap.size := fun k hk => ownsRow_lt h.rowA hk
  have hB : ∀ k, bv.ownBlock = some k → B ≤ k ∧ k < wr.heap.size := fun k hk => ownsRow_lt h.rowB hk
  have hM : ∀ k, mv.ownBlock = some k → B ≤ k ∧ k < wr.heap.size := fun k hk => ownsRow_lt h.rowM hk
  have ap' : ∀ k, k < wr.heap.size → bv.ownBlock ≠ some k → bv'.ownBlock ≠ some k := by
    intro k hlt hne
    rcases hat with e | e <;> rw [e]
    · exact hne
    · simp; omega
  have apx := ap' x h.hlt h.apB.1
  have hK : Keeps wr (mineS x mb mv av bv) (wC.setCell ⟨x, 4, none⟩ bv') (mineS x mb mv av bv') := by
    refine ⟨hsz, fun k hlt hn => ⟨hk k hlt (fun e => hn (.inl e)) (fun e => hn (.inr (.inr (.inr (.inr e))))), ?_⟩⟩
    rintro (e | e | e | e | e)
    · exact hn (.inl e)
    · exact hn (.inr (.inl e))
    · exact hn (.inr (.inr (.inl e)))
    · exact hn (.inr (.inr (.inr (.inl e))))
    · exact ap' k hlt (fun e => hn (.inr (.inr (.inr (.inr e))))) e
  refine ⟨⟨?_, ?_, ?_, ?_, ?_, h.hA, h.hx, h.hmb, Nat.lt_of_lt_of_le h.hlt hsz, by simpa using hc, h.ne, h.apM, h.apA, ⟨apx, ap' mb hmlt h.apB.2⟩, h.apMA, ?_, ?_, h.len, fun j hj => ⟨(h.els j hj).1, hK.onE (h.els j hj).2⟩⟩, hK⟩
  · exact ((ownsRow_on h.rowM).to hsz fun k hlt q => hk k hlt (fun e => h.apM.1 (by rw [← e]; exact q.1)) (h.apMB k q.1)).now
  · exact ((ownsRow_on h.rowA).to hsz fun k hlt q => hk k hlt (fun e => h.apA.1 (by rw [← e]; exact q.1)) (h.apAB k q.1)).now
  · have := (ownsRow_on hown).set (a := ⟨x, 4, none⟩) (fun e => apx e.1) bv'
    rw [arcCells_append]
    simpa using this.now
  · obtain ⟨es, cl, m1, m2⟩ := h.map
    exact ⟨es, cl, by rw [hk mb hmlt (fun e => h.ne e.symm) h.apB.2]; exact m1, m2⟩
  · exact (h.below.grown hg h.base (fun k hk => (hB k hk).1)).setCell (p := ⟨x, 4, none⟩) h.hx _
  · intro k hk e
    rcases hat with q | q
    · rw [q] at e; exact h.apMB k hk e
    · rw [q] at e; injection e with e; have := (hM k hk).2; omega
  · intro k hk e
    rcases hat with q | q
    · rw [q] at e; exact h.apAB k hk e
    · rw [q] at e; injection e with e; have := (hA k hk).2; omega

theorem SearchAt.at (h : SearchAt A x mb B M W wr ms ar bys c D mv av bv us) :
    wr.cell? ⟨x, 0, none⟩ = some (.int .i64 M) ∧ wr.cell? ⟨x, 1, none⟩ = some mv ∧ wr.cell? ⟨x, 2, none⟩ = some av ∧ wr.cell? ⟨x, 3, none⟩ = some (.map (some mb)) ∧ wr.cell? ⟨x, 4, none⟩ = some bv ∧ ∀ j, wr.frozen? ⟨x, j, none⟩ = false := by
  have hc := h.cells
  refine ⟨?_, ?_, ?_, ?_, ?_, fun j => ?_⟩
  all_goals simp [World.cell?, World.frozen?, hc]

theorem SearchAt.after {wC : World} {row : Option Nat} (h : SearchAt A x mb B M W wr ms ar bys c D mv av bv us) (hg : wr.grownBy wC row) (hr : row ≠ some x) :
    wC.cell? ⟨x, 0, none⟩ = some (.int .i64 M) ∧ wC.cell? ⟨x, 1, none⟩ = some mv ∧ wC.cell? ⟨x, 2, none⟩ = some av ∧ wC.cell? ⟨x, 3, none⟩ = some (.map (some mb)) ∧ wC.cell? ⟨x, 4, none⟩ = some bv ∧ ∀ j, wC.frozen? ⟨x, j, none⟩ = false := by
  have hc := (hg.block x h.hlt fun e => hr e.symm).trans h.cells
  refine ⟨?_, ?_, ?_, ?_, ?_, fun j => ?_⟩
  all_goals simp [World.cell?, World.frozen?, hc]

/-- A block that is none of its own stands while one of its rows grows. -/
theorem Keeps.box3 {w w' : World} {S S' : Nat → Prop} (h : Keeps w S w' S') {b : Nat} (hb : ¬ S b) {u0 u1 u2 : Value} (hx : Box3 w b u0 u1 u2) : Box3 w' b u0 u1 u2 := by
  obtain ⟨y0, y1, y2, y3⟩ := hx
  have hq := (h.2 b y0 hb).1
  exact ⟨Nat.lt_of_lt_of_le y0 h.1, (World.cell?_of_block (a := ⟨b, 0, none⟩) hq).trans y1, (World.cell?_of_block (a := ⟨b, 1, none⟩) hq).trans y2, (World.cell?_of_block (a := ⟨b, 2, none⟩) hq).trans y3⟩
theorem Keeps.box2 {w w' : World} {S S' : Nat → Prop} (h : Keeps w S w' S') {b : Nat} (hb : ¬ S b) {u0 u1 : Value} (hx : Box2 w b u0 u1) : Box2 w' b u0 u1 := by
  obtain ⟨y0, y1, y2⟩ := hx
  have hq := (h.2 b y0 hb).1
  exact ⟨Nat.lt_of_lt_of_le y0 h.1, (World.cell?_of_block (a := ⟨b, 0, none⟩) hq).trans y1, (World.cell?_of_block (a := ⟨b, 1, none⟩) hq).trans y2⟩

/-- A block that was made behind it is none of its own. -/
theorem SearchAt.notMine (h : SearchAt A x mb B M W wr ms ar bys c D mv av bv us) {b : Nat} (hb : wr.heap.size ≤ b) : ¬ mineS x mb mv av bv b := by
  rintro (e | e | e | e | e)
  · have := h.hlt; omega
  · have := h.map.lt; omega
  · have := ownsRow_lt h.rowM e; omega
  · have := ownsRow_lt h.rowA e; omega
  · have := ownsRow_lt h.rowB e; omega
/-- Nor one that was there ahead of it. -/
theorem SearchAt.notMineOld (h : SearchAt A x mb B M W wr ms ar bys c D mv av bv us) {b : Nat} (hb : b < B) : ¬ mineS x mb mv av bv b := by
  have h1 := h.hx
  have h2 := h.hmb
  rintro (e | e | e | e | e)
  · omega
  · omega
  · have := ownsRow_lt h.rowM e; omega
  · have := ownsRow_lt h.rowA e; omega
  · have := ownsRow_lt h.rowB e; omega

theorem SearchAt.sliceM (h : SearchAt A x mb B M W wr ms ar bys c D mv av bv us) : ∃ a cap, mv = .slice a ms.length cap := by
  rcases h.rowM.2 with ⟨e, h0⟩ | ⟨g, cap', cur, e, _⟩
  · exact ⟨none, 0, by rw [e, ← h.len, h0]⟩
  · exact ⟨_, _, by rw [e, h.len]⟩
theorem SearchAt.sliceA (h : SearchAt A x mb B M W wr ms ar bys c D mv av bv us) : ∃ a cap, av = .slice a ar.length cap := by
  rcases h.rowA.2 with ⟨e, h0⟩ | ⟨g, cap', cur, e, _⟩
  · exact ⟨none, 0, by rw [e, h0]⟩
  · exact ⟨_, _, e⟩
theorem SearchAt.sliceB (h : SearchAt A x mb B M W wr ms ar bys c D mv av bv us) : ∃ a cap, bv = .slice a bys.length cap := by
  rcases h.rowB.2 with ⟨e, h0⟩ | ⟨g, cap', cur, e, _⟩
  · exact ⟨none, 0, by rw [e, h0]⟩
  · exact ⟨_, _, e⟩

/-- What was made behind it hangs on none of its blocks. -/
theorem SearchAt.fresh {w' : World} (h : SearchAt A x mb B M W wr ms ar bys c D mv av bv us) {R : World → Prop} (hR : On (fun k => wr.heap.size ≤ k) w' R) :
    On (fun k => A ≤ k ∧ ¬ mineS x mb mv av bv k) w' R := by
  have h1 := h.hA
  have h2 := h.base
  exact hR.weaken fun k _ hk => ⟨by omega, h.notMine hk⟩

/-- What was there ahead of it hangs on none of its blocks. -/
theorem SearchAt.older {w' : World} (h : SearchAt A x mb B M W wr ms ar bys c D mv av bv us) {R : World → Prop} (hR : On (fun k => k < B) w' R) :
    On (fun k => ¬ mineS x mb mv av bv k) w' R := by
  exact hR.weaken fun k _ hk => h.notMineOld hk

end

end Go.Proofs.Ytkdbkoogcndlgaa

/- Package reach as it landed: a mark is added to a search. -/
namespace Go.Proofs.Ytkdbkoogcndlgaa
open Go.RowKit Go.Maps
set_option linter.unusedVariables false
set_option maxRecDepth 4000

theorem wpr_append_arc {o : Oper} {a : Act} {K : Act → World → Prop} {Q : Exit → Act → World → Prop} {Y : Nat → Option Bool} (hwt : Region.wanted o Y = true) (s x : Operand)
    (ho : o.op = .call { callee := .builtin .append, args := #[s, x], argTypes := #[44, 44] }) (B : Nat) (wr wq : World) (v : Value) (l : List ArcL) (f t g : Int) (hq : wq = wr.alloc (.cells #[.int .i64 f, .int .i64 t, .int .i64 g] 79))
    (hown : wr.ownsRow B 79 3 v l.length (arcCells l)) (hs : a.eval s = v) (hx : a.eval x = .slice (some ⟨wr.heap.size, 0, none⟩) 1 1) (hl : l.length + 1 ≤ 5864062014805) (hB : B ≤ wr.heap.size)
    (h : ∀ v' w', w'.ownsRow B 79 3 v' (l.length + 1) (arcCells l ++ [.int .i64 f, .int .i64 t, .int .i64 g]) → (wr.alloc (.cells #[.int .i64 f, .int .i64 t, .int .i64 g] 79)).grownBy w' v.ownBlock →
      (v'.ownBlock = v.ownBlock ∨ v'.ownBlock = some (wr.alloc (.cells #[.int .i64 f, .int .i64 t, .int .i64 g] 79)).heap.size) → K (a.put o.dst v') w') :
    if Region.wanted o Y = true then Oper.wp Try.prog o a wq K Q else K (a.put o.dst undef) wq := by
  subst hq
  obtain ⟨i0, hi, hz0, hz1, hz2⟩ := info_parts info_arc
  refine wp_append_at _ hwt s x 44 ho B 79 i0 _ 3 24 Try.underlying44 hi hz0 hz1 hz2 rfl (by decide) v l.length _ hs (hown.alloc _) ⟨wr.heap.size, 0, none⟩ 1 1 [.int .i64 f, .int .i64 t, .int .i64 g] hx rfl ?_ ?_ ?_ ?_ ?_ h
  · intro j u hj
    rw [addr_add, World.cell?_alloc_at _ _ _ _ rfl]
    match j, hj with
    | 0, hj => simpa using hj
    | 1, hj => simpa using hj
    | 2, hj => simpa using hj
  · intro u hu
    simp only [List.mem_cons, List.not_mem_nil, or_false] at hu
    rcases hu with rfl | rfl | rfl <;> rfl
  · unfold maxLen; omega
  · omega
  · simp; omega

theorem box3_grown {w wC : World} {b : Nat} {u0 u1 u2 : Value} {row : Option Nat} (hx : Box3 w b u0 u1 u2) (hg : w.grownBy wC row) (hr : row ≠ some b) : Box3 wC b u0 u1 u2 := by
  obtain ⟨y0, y1, y2, y3⟩ := hx
  have hq := hg.block b y0 (fun e => hr e.symm)
  exact ⟨Nat.lt_of_lt_of_le y0 hg.size, (World.cell?_of_block (a := ⟨b, 0, none⟩) hq).trans y1, (World.cell?_of_block (a := ⟨b, 1, none⟩) hq).trans y2, (World.cell?_of_block (a := ⟨b, 2, none⟩) hq).trans y3⟩

/-- The loads of a row that the same statement stores: they are not taken first. -/
abbrev byLoad : Op := Op.load 44 (Operand.tmp 33)
abbrev arcLoad : Op := Op.load 44 (Operand.tmp 49)

set_option maxHeartbeats 2000000 in
theorem search_add {A x mb B : Nat} {M : Int} {W wr : World} {ms : List (List Int)} {ar bys : List ArcL} {c : Nat} {D : DataW Unit} {mv av bv : Value} {us : List Value} (hS : SearchAt A x mb B M W wr ms ar bys c D mv av bv us)
    (r : Value) (z : List Int) (a : ArcL) (hr : On (fun k => A ≤ k ∧ ¬ mineS x mb mv av bv k) wr (fun w' => Ints w' r z)) (hz : ∀ y ∈ z, inWord y) (hc : c < maxLen) (hl : us.length + 1 ≤ 5864062014805) (hlb : bys.length + 1 ≤ 5864062014805) :
    Calls Try.prog 62 #[.pointer (some ⟨x, 0, none⟩), r, .agg #[.int .i64 a.frm, .int .i64 a.tran, .int .i64 a.dst]] wr fun e w' => e = .returned (.tuple #[]) ∧
      ∃ mv' bv', SearchAt A x mb B M W w' (ms ++ [z]) ar (bys ++ [a]) (c + 1) (D.put (keyLit z) (.lit (.int .i64 (ms.length : Int)))) mv' av bv' (us ++ [r]) ∧ Keeps wr (mineS x mb mv av bv) w' (mineS x mb mv' av bv') := by
  have b1 := below_new wr (.cells #[.int .i64 a.frm, .int .i64 a.tran, .int .i64 a.dst] 79)
  have hx3 := box3_new wr (.int .i64 a.frm) (.int .i64 a.tran) (.int .i64 a.dst) 79
  obtain ⟨w1, Hw1⟩ : ∃ w1, Hid (wr.alloc (.cells #[.int .i64 a.frm, .int .i64 a.tran, .int .i64 a.dst] 79) = w1) := ⟨_, rfl⟩
  rw [Hw1.out] at b1 hx3
  have hS1 := hS.to b1
  have hr1 := hr.below b1
  obtain ⟨am, cm, hmv⟩ := hS.sliceM
  obtain ⟨lm, Hlm⟩ : ∃ lm, Hid (ms.length = lm) := ⟨_, rfl⟩
  rw [Hlm.out] at hmv ⊢
  have Hlu : Hid (us.length = lm) := hS.len.trans Hlm.out
  obtain ⟨ax, lx, cx, hrv⟩ : ∃ ax lx cx, r = .slice ax lx cx := by obtain ⟨ax, lx, cx, e, _⟩ := hr.now; exact ⟨ax, lx, cx, e⟩
  subst hmv hrv
  obtain ⟨d0, d1, d2, d3, d4, df⟩ := hS1.at
  have Hw : Hid _ := hz
  have Hll : Hid _ := hl
  have hlm : lm + 1 ≤ 5864062014805 := by have := Hlu.out; omega
  have Hdf : Hid _ := df
  clear hz df hl
  go_enter Try.func62, Try.ntmps62
  go_upto_region 1 with fail
  rw [Hw1.out]
  clear Hw1
  go_region_held3 (fun w' => w'.cell? ⟨x, 1, none⟩ = some (.slice am lm cm) ∧ w'.cell? ⟨x, 3, none⟩ = some (.map (some mb)))
    (go_keep)
    (first
      | (go_at_call 33; refine (key_any _ z _ ?_).mono ?_; exact hr1.now.drewN 1; rintro e w5 ⟨rfl, q5⟩; have q5 := below_then (below_drewN (Below.refl w1.heap.size w1) 1) q5; have hS5 := hS1.to q5; obtain ⟨e0, e1, e2, e3, e4, ef⟩ := hS5.at; obtain ⟨w6, hrun, hm6, hg6⟩ := hS5.map.update key_law Try.underlying61 hc (keyOf_pad z Hw.out) (plainElem_int (H := Unit) Try.underlying3 (a := (lm : Int)) (WalkArith.wf_i64 (by omega))); obtain ⟨hS6, hK6⟩ := hS5.mapped hm6 hg6; obtain ⟨i0, i1, i2, i3, i4, if_⟩ := hS6.at))
  have HK6 : Hid (Keeps wr (mineS x mb (.slice am lm cm) av bv) w6 (mineS x mb (.slice am lm cm) av bv)) := (Keeps.below (below_then b1 q5) (mineS x mb (.slice am lm cm) av bv)).trans hK6
  have hr6 := hK6.onE (hr1.below q5)
  have hx36 := hK6.box3 (hS.notMine (Nat.le_refl _)) (hx3.below q5)
  have Hnm : Hid _ := hS.notMine (Nat.le_refl _)
  have j1 := if_ 1
  have hrowM := hS6.rowM
  have hB6 := hS6.base
  clear d0 d1 d2 d3 d4 e0 e1 e2 e3 e4 ef i0 i2 i3 i4 if_ hrun hS5 hK6 hm6 hg6 hr1 Hdf hx3 q5
  go_upto_region 3 with (at_builtin; refine wp_append_mark rfl _ _ rfl B w6 _ us ax lx cx hrowM rfl rfl Hll.out hB6 ?_; intro v' wC hC hgC hatC; obtain ⟨a', l', c', rfl⟩ := ownsRow_slice hC; have hS7 := hS6.to (below_new w6 (.cells #[.slice ax lx cx] 25)); obtain ⟨u0, u1, u2, u3, u4, uf⟩ := hS7.after hgC hS7.apM.1; have uf1 := uf 1; obtain ⟨hS8, hK8⟩ := hS7.mark rfl (hr6.below (below_new w6 (.cells #[.slice ax lx cx] 25))) hC hgC hatC)
  have HK8 : Hid _ := (HK6.out.trans (Keeps.below (below_new w6 (.cells #[.slice ax lx cx] 25)) _)).trans hK8
  have hx8 := hK8.box3 Hnm.out (hx36.below (below_new w6 (.cells #[.slice ax lx cx] 25)))
  have Hnm8 : Hid (¬ mineS x mb (Value.slice a' l' c') av bv wr.heap.size) := (hK8.2 wr.heap.size (hx36.below (below_new w6 (.cells #[.slice ax lx cx] 25))).1 Hnm.out).2
  obtain ⟨w8, Hw8⟩ : ∃ w8, Hid (wC.setCell ⟨x, 1, none⟩ (.slice a' l' c') = w8) := ⟨_, rfl⟩
  rw [Hw8.out] at hS8 HK8 hx8 ⊢
  clear hK8 HK6 hS7 u0 u1 u2 u3 u4 uf uf1 hC hgC hatC Hw8 hx36 hr6 hS6 hS1 hS hr Hnm i1 j1 hrowM hB6
  obtain ⟨y0, y1, y2, y3⟩ := id hx8
  obtain ⟨u0, u1, u2, u3, u4, uf⟩ := hS8.at
  have uf4 := uf 4
  have hne : ¬ x = wr.heap.size := fun e => Hnm8.out (.inl e.symm)
  have u4a := (hS8.to (below_new w8 (.cells #[.int .i64 a.frm, .int .i64 a.tran, .int .i64 a.dst] 79))).at.2.2.2.2.1
  have hS8d := hS8.to (below_drewN (Below.refl _ _) 1)
  rw [show (Op.load 44 (Operand.tmp 33) : Op) = byLoad from rfl]
  go_region_held3 (fun w' => w'.cell? ⟨wr.heap.size, 0, none⟩ = some (.int .i64 a.frm) ∧ w'.cell? ⟨wr.heap.size, 1, none⟩ = some (.int .i64 a.tran) ∧ w'.cell? ⟨wr.heap.size, 2, none⟩ = some (.int .i64 a.dst))
    (go_keep)
    (first
      | (refine wpr_append_arc rfl _ _ rfl B w8.drew _ bv bys _ _ _ rfl hS8d.rowB rfl rfl hlb hS8d.base ?_; intro v' wC hC hgC hatC; obtain ⟨a2, l2, c2, rfl⟩ := ownsRow_slice hC; have hS9 := hS8d.to (below_new w8.drew (.cells #[.int .i64 a.frm, .int .i64 a.tran, .int .i64 a.dst] 79)); obtain ⟨t0, t1, t2, t3, t4, tf⟩ := hS9.after hgC hS9.apB.1; have tf4 := tf 4; obtain ⟨s0, s1, s2, s3⟩ := box3_grown ((hx8.below (below_drewN (Below.refl _ _) 1)).below (below_new w8.drew (.cells #[.int .i64 a.frm, .int .i64 a.tran, .int .i64 a.dst] 79))) hgC (fun e => Hnm8.out (.inr (.inr (.inr (.inr e))))); obtain ⟨hS10, hK10⟩ := hS9.by hC hgC hatC))
  all_goals
    have HK : Hid _ := (HK8.out.trans (Keeps.below (below_then (below_drewN (Below.refl w8.heap.size w8) 1) (below_new w8.drew (.cells #[.int .i64 a.frm, .int .i64 a.tran, .int .i64 a.dst] 79))) _)).trans hK10
    clear hK10 hS9 t0 t1 t2 t3 t4 tf tf4 s0 s1 s2 s3 hC hgC hatC hS8 hS8d HK8 hx8 y0 y1 y2 y3 u0 u1 u2 u3 u4 uf uf4 u4a
    go_wp2
    go_end0
    exact ⟨rfl, _, _, hS10, HK.out⟩

end Go.Proofs.Ytkdbkoogcndlgaa

/- Package reach as it landed: a firing arrives. -/
namespace Go.Proofs.Ytkdbkoogcndlgaa
open Go.RowKit Go.Maps
set_option linter.unusedVariables false
set_option maxRecDepth 4000

/-- A search, whole: it knows each mark's number, and how it was found. -/
def Srch (A x mb B P M : Nat) (W wr : World) (s : SpaceL) (bys : List ArcL) (mv av bv : Value) : Prop :=
  ∃ D us, SearchAt A x mb B M W wr s.marks s.arcs bys s.marks.length D mv av bv us ∧ Says P s.marks D ∧ bys.length = s.marks.length

theorem Srch.to {A x mb B P M : Nat} {W wr w' : World} {s : SpaceL} {bys : List ArcL} {mv av bv : Value} (h : Srch A x mb B P M W wr s bys mv av bv) (hb : Below wr.heap.size wr w') : Srch A x mb B P M W w' s bys mv av bv := by
  obtain ⟨D, us, h1, h2⟩ := h
  exact ⟨D, us, h1.to hb, h2⟩

theorem look_yes {w : World} {mb c P g : Nat} {D : DataW Unit} {ms : List (List Int)} {z : List Int} (hm : w.ownsMap Try.prog 68 (plainElem Try.prog 3) mb c D) (hs : Says P ms D) (hl : z.length = P) (hw : ∀ y ∈ z, inWord y) (hf : findM ms z = some g) :
    (Instr.lookup 61 (.map (some mb)) (.agg (padV z).toArray) true).run Try.prog w = .ok (.tuple #[.int .i64 (g : Int), .bool true]) w := by
  obtain ⟨v, ps, hrun, hv⟩ := hm.look_ok key_law Try.underlying61 (e := 3) (z := .int .i64 0) (by kernel_rfl) (zd := .lit (.int .i64 0)) (zp := []) (plainElem_int Try.underlying3 (by decide)) (keyOf_pad z hw)
  obtain ⟨h1, h2⟩ := hs.yes z g hl hw hf
  rw [h2] at hv
  obtain ⟨a, rfl, e, _⟩ := plainElem_int_inv Try.underlying3 hv
  injection e with e1 e2
  injection e1 with e1
  injection e1 with _ e1
  rw [hrun, h1, ← e1]

theorem look_no {w : World} {mb c P : Nat} {D : DataW Unit} {ms : List (List Int)} {z : List Int} (hm : w.ownsMap Try.prog 68 (plainElem Try.prog 3) mb c D) (hs : Says P ms D) (hl : z.length = P) (hw : ∀ y ∈ z, inWord y) (hf : findM ms z = none) :
    ∃ a : Int, (Instr.lookup 61 (.map (some mb)) (.agg (padV z).toArray) true).run Try.prog w = .ok (.tuple #[.int .i64 a, .bool false]) w := by
  obtain ⟨v, ps, hrun, hv⟩ := hm.look_ok key_law Try.underlying61 (e := 3) (z := .int .i64 0) (by kernel_rfl) (zd := .lit (.int .i64 0)) (zp := []) (plainElem_int Try.underlying3 (by decide)) (keyOf_pad z hw)
  obtain ⟨a, rfl, e, _⟩ := plainElem_int_inv Try.underlying3 hv
  exact ⟨a, by rw [hrun, hs.no z hl hw hf]⟩

/-- What a firing that comes to z makes of a search. -/
def arriveL (M : Nat) (s : SpaceL) (bys : List ArcL) (f t : Nat) (z : List Int) : SpaceL × List ArcL × Int :=
  match findM s.marks z with
  | some g => (⟨s.marks, s.arcs ++ [⟨f, t, g⟩]⟩, bys, 0)
  | none => if s.marks.length = M then (s, bys, 4) else (⟨s.marks ++ [z], s.arcs ++ [⟨f, t, s.marks.length⟩]⟩, bys ++ [⟨f, t, s.marks.length⟩], 0)

/-- The cells of a block of three. -/
theorem box3_block {w : World} {b : Nat} {t : TypeId} {u0 u1 u2 : Value} (h : w.heap[b]? = some (.cells #[u0, u1, u2] t (0, 0))) : Box3 w b u0 u1 u2 ∧ ∀ j, w.frozen? ⟨b, j, none⟩ = false := by
  refine ⟨⟨(Array.getElem?_eq_some_iff.1 h).1, ?_, ?_, ?_⟩, fun j => ?_⟩
  all_goals simp [World.cell?, World.frozen?, h]

set_option maxHeartbeats 2000000 in
theorem search_arrive {A x mb B P M : Nat} {W wr : World} {s : SpaceL} {bys : List ArcL} {mv av bv : Value} (hQ : Srch A x mb B P M W wr s bys mv av bv)
    (r : Value) (z : List Int) (f t : Nat) (hr : On (fun k => A ≤ k ∧ ¬ mineS x mb mv av bv k) wr (fun w' => Ints w' r z)) (hz : ∀ y ∈ z, inWord y) (hzl : z.length = P) (hP : P ≤ 16) (hl : s.marks.length ≤ 300) (hla : s.arcs.length + 1 ≤ 5864062014805) :
    Calls Try.prog 88 #[.pointer (some ⟨x, 0, none⟩), r, .int .i64 f, .int .i64 t] wr fun e w' =>
      ∃ mv' av' bv', e = .returned (.int .i64 (arriveL M s bys f t z).2.2) ∧ Srch A x mb B P M W w' (arriveL M s bys f t z).1 (arriveL M s bys f t z).2.1 mv' av' bv' ∧ Keeps wr (mineS x mb mv av bv) w' (mineS x mb mv' av' bv') := by
  obtain ⟨D, us, hS, hD, hlb⟩ := hQ
  obtain ⟨am, cm, hmv⟩ := hS.sliceM
  obtain ⟨ax, lx, cx, hrv⟩ : ∃ ax lx cx, r = .slice ax lx cx := by obtain ⟨ax, lx, cx, e, _⟩ := hr.now; exact ⟨ax, lx, cx, e⟩
  subst hmv hrv
  obtain ⟨lm, Hlm⟩ : ∃ lm, Hid (s.marks.length = lm) := ⟨_, rfl⟩
  have hS0 := hS
  rw [Hlm.out] at hS0 hl
  obtain ⟨d0, d1, d2, d3, d4, df⟩ := hS0.at
  have b1 := below_new wr (.cells #[.int .i64 (f : Int), .int .i64 (t : Int), .int .i64 (lm : Int)] 79)
  have hy : (wr.alloc (.cells #[.int .i64 (f : Int), .int .i64 (t : Int), .int .i64 (lm : Int)] 79)).heap[wr.heap.size]? = some (.cells #[.int .i64 (f : Int), .int .i64 (t : Int), .int .i64 (lm : Int)] 79 (0, 0)) := heap_alloc_new wr _
  obtain ⟨w1, Hw1⟩ : ∃ w1, Hid (wr.alloc (.cells #[.int .i64 (f : Int), .int .i64 (t : Int), .int .i64 (lm : Int)] 79) = w1) := ⟨_, rfl⟩
  rw [Hw1.out] at b1 hy
  have hr1 := hr.below b1
  have Hw : Hid _ := hz
  have Hla : Hid _ := hla
  have Hnm : Hid _ := hS.notMine (Nat.le_refl _)
  have hne : ¬ x = wr.heap.size := fun e => Hnm.out (.inl e.symm)
  clear hz hla df
  go_enter Try.func88, Try.ntmps88
  go_upto_region 2 with fail
  rw [Hw1.out]
  clear Hw1 d0 d1 d2 d3 d4
  have hS1 := hS0.to b1
  obtain ⟨d0, d1, d2, d3, d4, df⟩ := hS1.at
  cases hf : findM s.marks z with
  | some g =>
    have HA : Hid (arriveL M s bys f t z = (⟨s.marks, s.arcs ++ [⟨f, t, g⟩]⟩, bys, 0)) := by show _ = _; unfold arriveL; rw [hf]
    have Hf : Hid _ := hf
    clear hf
    go_region_held3 (fun w' => w'.cell? ⟨x, 3, none⟩ = some (.map (some mb)))
      (go_keep)
      (first
        | (go_at_call 33; refine (key_any _ z _ ?_).mono ?_; exact hr1.now.drewN 1; rintro e w5 ⟨rfl, q5⟩; have q5 := below_then (below_drewN (Below.refl w1.heap.size w1) 1) q5; have hS5 := hS1.to q5; obtain ⟨e0, e1, e2, e3, e4, ef⟩ := hS5.at; have hrun := look_yes hS5.map hD hzl Hw.out Hf.out))
    have hy5 := (q5.block wr.heap.size (Array.getElem?_eq_some_iff.1 hy).1).trans hy
    obtain ⟨⟨y0, y1, y2, y3⟩, yf⟩ := box3_block hy5
    have yf2 := yf 2
    have b5 : Below wr.heap.size wr (w5.setCell ⟨wr.heap.size, 2, none⟩ (.int .i64 (g : Int))) := (below_then b1 q5).setCell (p := ⟨wr.heap.size, 2, none⟩) (Nat.le_refl _) _
    obtain ⟨hx6, _⟩ := box3_block (setCell_block (i := 2) hy5 (.int .i64 (g : Int)))
    have hS6 := hS.to b5
    obtain ⟨w6, Hw6⟩ : ∃ w6, Hid (w5.setCell ⟨wr.heap.size, 2, none⟩ (.int .i64 (g : Int)) = w6) := ⟨_, rfl⟩
    rw [Hw6.out] at b5 hx6 hS6
    clear hS5 e0 e1 e2 e3 e4 ef hrun d0 d1 d2 d3 d4 df hS1 hr1 yf
    go_upto_region 8 with fail
    rw [Hw6.out]
    clear Hw6 y0 y1 y2 y3 yf2
    obtain ⟨y0, y1, y2, y3⟩ := id hx6
    obtain ⟨u0, u1, u2, u3, u4, uf⟩ := hS6.at
    have uf2 := uf 2
    have u2a := (hS6.to (below_new w6 (.cells #[.int .i64 (f : Int), .int .i64 (t : Int), .int .i64 (g : Int)] 79))).at.2.2.1
    have hSd := hS6.to (below_drewN (Below.refl _ _) 1)
    rw [show (Op.load 44 (Operand.tmp 49) : Op) = arcLoad from rfl]
    go_region_held3 (fun w' => w'.cell? ⟨wr.heap.size, 0, none⟩ = some (.int .i64 (f : Int)) ∧ w'.cell? ⟨wr.heap.size, 1, none⟩ = some (.int .i64 (t : Int)) ∧ w'.cell? ⟨wr.heap.size, 2, none⟩ = some (.int .i64 (g : Int)))
      (go_keep)
      (first
        | (refine wpr_append_arc rfl _ _ rfl B w6.drew _ av s.arcs _ _ _ rfl hSd.rowA rfl rfl Hla.out hSd.base ?_; intro v' wC hC hgC hatC; obtain ⟨a2, l2, c2, rfl⟩ := ownsRow_slice hC; have hS9 := hSd.to (below_new w6.drew (.cells #[.int .i64 (f : Int), .int .i64 (t : Int), .int .i64 (g : Int)] 79)); obtain ⟨t0, t1, t2, t3, t4, tf⟩ := hS9.after hgC hS9.apA.1; have tf2 := tf 2; obtain ⟨s0, s1, s2, s3⟩ := box3_grown ((hx6.below (below_drewN (Below.refl _ _) 1)).below (below_new w6.drew (.cells #[.int .i64 (f : Int), .int .i64 (t : Int), .int .i64 (g : Int)] 79))) hgC (fun e => Hnm.out (.inr (.inr (.inr (.inl e))))); obtain ⟨hS10, hK10⟩ := hS9.arc (a := ⟨f, t, g⟩) hC hgC hatC))
    all_goals
      have HK : Hid _ := ((Keeps.below b5 _).trans (Keeps.below (below_then (below_drewN (Below.refl w6.heap.size w6) 1) (below_new w6.drew (.cells #[.int .i64 (f : Int), .int .i64 (t : Int), .int .i64 (g : Int)] 79))) _)).trans hK10
      clear hK10 hS9 t0 t1 t2 t3 t4 tf tf2 s0 s1 s2 s3 hC hgC hatC hSd hx6 y0 y1 y2 y3 u0 u1 u2 u3 u4 uf uf2 u2a
      go_wp2
      go_ret
      refine ⟨_, _, _, by rw [HA.out]; rfl, ?_, HK.out⟩
      rw [HA.out]
      exact ⟨_, _, hS10, hD, hlb⟩
  | none =>
    have Hf : Hid _ := hf
    clear hf
    go_region_held3 (fun w' => w'.cell? ⟨x, 3, none⟩ = some (.map (some mb)))
      (go_keep)
      (first
        | (go_at_call 33; refine (key_any _ z _ ?_).mono ?_; exact hr1.now.drewN 1; rintro e w5 ⟨rfl, q5⟩; have q5 := below_then (below_drewN (Below.refl w1.heap.size w1) 1) q5; have hS5 := hS1.to q5; obtain ⟨e0, e1, e2, e3, e4, ef⟩ := hS5.at; obtain ⟨z0, hrun⟩ := look_no hS5.map hD hzl Hw.out Hf.out))
    have hy5 := (q5.block wr.heap.size (Array.getElem?_eq_some_iff.1 hy).1).trans hy
    obtain ⟨hx5, yf⟩ := box3_block hy5
    obtain ⟨y0, y1, y2, y3⟩ := id hx5
    clear yf hrun d0 d1 d2 d3 d4 df hy hy5
    go_wp2_with fail
    go_quiet (fail)
    have q6 := below_then (below_then b1 q5) (below_drewN (Below.refl w5.heap.size w5) nq)
    obtain ⟨w6, Hw6⟩ : ∃ w6, Hid (w5.drewN nq = w6) := ⟨_, rfl⟩
    have hx6 := hx5.below (below_drewN (Below.refl w5.heap.size w5) nq)
    rw [Hw6.out] at hx6 q6 ⊢
    have hr6 := hr.below q6
    clear Hw6 hS1 hS5 e0 e1 e2 e3 e4 ef y0 y1 y2 y3 hx5 q5
    by_cases hlM : lm = M
    · have hcmp : ((lm : Int) == (M : Int)) = true := by simp [hlM]
      have HA : Hid (arriveL M s bys f t z = (s, bys, 4)) := by show _ = _; unfold arriveL; rw [Hf.out]; simp only; rw [if_pos (by rw [Hlm.out]; exact hlM)]
      have hS6 := hS.to q6
      go_wp2
      go_ret
      exact ⟨_, _, _, by rw [HA.out]; rfl, by rw [HA.out]; exact ⟨_, _, hS6, hD, hlb⟩, Keeps.below q6 _⟩
    · have hcmp : ((lm : Int) == (M : Int)) = false := by simp; omega
      have HA : Hid (arriveL M s bys f t z = (⟨s.marks ++ [z], s.arcs ++ [⟨f, t, lm⟩]⟩, bys ++ [⟨f, t, lm⟩], 0)) := by show _ = _; unfold arriveL; rw [Hf.out]; simp only; rw [if_neg (by rw [Hlm.out]; exact hlM), Hlm.out]
      have hS6 := hS.to q6
      obtain ⟨y0, y1, y2, y3⟩ := id hx6
      go_wp2_with fail
      refine (search_add hS6 _ z ⟨f, t, lm⟩ hr6 Hw.out (by rw [Hlm.out]; unfold maxLen; omega) (by rw [hS6.len, Hlm.out]; omega) (by rw [hlb, Hlm.out]; omega)).mono ?_
      rintro e w7 ⟨rfl, mv7, bv7, hS7, hK7⟩
      have HK7 : Hid _ := (Keeps.below q6 _).trans hK7
      have hx7 := hK7.box3 Hnm.out hx6
      have Hnm7 : Hid _ := (hK7.block wr.heap.size hx6.1 Hnm.out).2
      have hne7 : ¬ x = wr.heap.size := fun e => Hnm7.out (.inl e.symm)
      clear hS6 hr6 y0 y1 y2 y3 hx6 hK7
      go_upto_region 8 with fail
      obtain ⟨y0, y1, y2, y3⟩ := id hx7
      obtain ⟨u0, u1, u2, u3, u4, uf⟩ := hS7.at
      have uf2 := uf 2
      have u2a := (hS7.to (below_new w7 (.cells #[.int .i64 (f : Int), .int .i64 (t : Int), .int .i64 (lm : Int)] 79))).at.2.2.1
      have hSd := hS7.to (below_drewN (Below.refl _ _) 1)
      rw [show (Op.load 44 (Operand.tmp 49) : Op) = arcLoad from rfl]
      go_region_held3 (fun w' => w'.cell? ⟨wr.heap.size, 0, none⟩ = some (.int .i64 (f : Int)) ∧ w'.cell? ⟨wr.heap.size, 1, none⟩ = some (.int .i64 (t : Int)) ∧ w'.cell? ⟨wr.heap.size, 2, none⟩ = some (.int .i64 (lm : Int)))
        (go_keep)
        (first
          | (refine wpr_append_arc rfl _ _ rfl B w7.drew _ av s.arcs _ _ _ rfl hSd.rowA rfl rfl Hla.out hSd.base ?_; intro v' wC hC hgC hatC; obtain ⟨a2, l2, c2, rfl⟩ := ownsRow_slice hC; have hS9 := hSd.to (below_new w7.drew (.cells #[.int .i64 (f : Int), .int .i64 (t : Int), .int .i64 (lm : Int)] 79)); obtain ⟨t0, t1, t2, t3, t4, tf⟩ := hS9.after hgC hS9.apA.1; have tf2 := tf 2; obtain ⟨s0, s1, s2, s3⟩ := box3_grown ((hx7.below (below_drewN (Below.refl _ _) 1)).below (below_new w7.drew (.cells #[.int .i64 (f : Int), .int .i64 (t : Int), .int .i64 (lm : Int)] 79))) hgC (fun e => Hnm7.out (.inr (.inr (.inr (.inl e))))); obtain ⟨hS10, hK10⟩ := hS9.arc (a := ⟨f, t, lm⟩) hC hgC hatC))
      all_goals
        have HK : Hid _ := (HK7.out.trans (Keeps.below (below_then (below_drewN (Below.refl w7.heap.size w7) 1) (below_new w7.drew (.cells #[.int .i64 (f : Int), .int .i64 (t : Int), .int .i64 (lm : Int)] 79))) _)).trans hK10
        clear hK10 hS9 t0 t1 t2 t3 t4 tf tf2 s0 s1 s2 s3 hC hgC hatC hSd hx7 y0 y1 y2 y3 u0 u1 u2 u3 u4 uf uf2 u2a
        go_wp2
        go_ret
        refine ⟨_, _, _, by rw [HA.out]; rfl, ?_, HK.out⟩
        rw [HA.out]
        exact ⟨_, _, by rw [List.length_append]; exact hS10, hD.put hP hS.map.isMap hzl Hw.out Hf.out, by simp [hlb]⟩

end Go.Proofs.Ytkdbkoogcndlgaa
