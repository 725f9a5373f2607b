import Derived.Test.YtakgppoeikcepaaGr18
import Derived.Test.YtakgppoeikcepaaGr17
import Derived.Test.YtakgppoeikcepaaGr05
import Derived.Test.YtakgppoeikcepaaReachKey
import Derived.Test.YtakgppoeikcepaaGr04
import Derived.Test.YtakgppoeikcepaaGr06
/- What can be seen of a net: what heard makes, plainly. -/
namespace Go.Proofs.Ytakgppoeikcepaa
open Go.RowKit Go.Shelf
set_option linter.unusedVariables false
set_option maxRecDepth 4000

/-- What heard tells. -/
structure TalkOk (n : NetL) (s : SpaceL) (E : List Int) (t : TalkL) : Prop where
  size : t.n = s.marks.length
  bg : ∀ j, j < 320 → (t.bg.has j = true ↔ Way s.arcs (labT n) 0 [] j)
  next : ∀ m c, m < t.n → 1 ≤ c → c < 27 → ∀ j, j < 320 → ((t.next m c).has j = true ↔ ∃ a ∈ s.arcs, a.frm = m ∧ labT n a.tran = (c : Int) ∧ Way s.arcs (labT n) a.dst [] j)
  least : LeastAll n s E (nth t.least)

/-- Sets of the first k arcs. -/
def NextTo (n : NetL) (A : List ArcL) (N : Nat) (f : Nat → SetL) (k : Nat) (g : Nat → SetL) : Prop := ∀ m c, m < N → c < 27 → ∀ j, j < 320 → ((g (m * 27 + c)).has j = true ↔ ∃ a ∈ A.take k, a.frm = m ∧ labT n a.tran = (c : Int) ∧ 0 < c ∧ (f a.dst).has j = true)
theorem NextTo.zero {n : NetL} {A : List ArcL} {N : Nat} {f : Nat → SetL} : NextTo n A N f 0 (fun _ => noneS) := fun m c _ _ j _ => by rw [has_none]; simp
theorem NextTo.skip {n : NetL} {A : List ArcL} {N k : Nat} {f g : Nat → SetL} (h : NextTo n A N f k g) (hk : k < A.length) (hl : labT n A[k].tran ≤ 0) : NextTo n A N f (k + 1) g := by
  intro m c hm hc j hj
  rw [h m c hm hc j hj, List.take_succ_eq_append_getElem hk]
  constructor
  · rintro ⟨a, ha, q⟩; exact ⟨a, List.mem_append_left _ ha, q⟩
  · rintro ⟨a, ha, q1, q2, q3, q4⟩
    rcases List.mem_append.1 ha with ha | ha
    · exact ⟨a, ha, q1, q2, q3, q4⟩
    · rw [List.mem_singleton.1 ha] at q2; omega
theorem NextTo.step {n : NetL} {A : List ArcL} {N k l : Nat} {f g : Nat → SetL} (h : NextTo n A N f k g) (hk : k < A.length) (hl : labT n A[k].tran = (l : Int)) (hl0 : 0 < l) (hl27 : l < 27) :
    NextTo n A N f (k + 1) (updS g (A[k].frm * 27 + l) (orS (g (A[k].frm * 27 + l)) (f A[k].dst))) := by
  intro m c hm hc j hj
  rw [List.take_succ_eq_append_getElem hk]
  by_cases e : m = A[k].frm ∧ c = l
  · obtain ⟨rfl, rfl⟩ := e
    rw [updS_same, has_or, Bool.or_eq_true, h _ _ hm hc j hj]
    constructor
    · rintro (⟨a, ha, q⟩ | q)
      · exact ⟨a, List.mem_append_left _ ha, q⟩
      · exact ⟨_, List.mem_append_right _ (List.mem_singleton.2 rfl), rfl, hl, hl0, q⟩
    · rintro ⟨a, ha, q1, q2, q3, q4⟩
      rcases List.mem_append.1 ha with ha | ha
      · exact .inl ⟨a, ha, q1, q2, q3, q4⟩
      · rw [List.mem_singleton.1 ha] at q4; exact .inr q4
  · rw [updS_other _ _ (by intro q; apply e; omega), h m c hm hc j hj]
    constructor
    · rintro ⟨a, ha, q⟩; exact ⟨a, List.mem_append_left _ ha, q⟩
    · rintro ⟨a, ha, q1, q2, q3, q4⟩
      rcases List.mem_append.1 ha with ha | ha
      · exact ⟨a, ha, q1, q2, q3, q4⟩
      · rw [List.mem_singleton.1 ha] at q1 q2
        exact absurd ⟨q1.symm, by omega⟩ e
theorem NextTo.done {n : NetL} {A : List ArcL} {N : Nat} {f g : Nat → SetL} (h : NextTo n A N f A.length g) (hf : FarAll A (labT n) N f) (hA : ∀ a ∈ A, a.dst < N) : ∀ m c, m < N → 1 ≤ c → c < 27 → ∀ j, j < 320 → ((g (m * 27 + c)).has j = true ↔ ∃ a ∈ A, a.frm = m ∧ labT n a.tran = (c : Int) ∧ Way A (labT n) a.dst [] j) := by
  intro m c hm hc1 hc j hj
  rw [h m c hm hc j hj, List.take_length]
  constructor
  · rintro ⟨a, ha, q1, q2, q3, q4⟩; exact ⟨a, ha, q1, q2, (hf _ (hA a ha) j hj).1 q4⟩
  · rintro ⟨a, ha, q1, q2, q4⟩; exact ⟨a, ha, q1, q2, by omega, (hf _ (hA a ha) j hj).2 q4⟩

theorem two_places {n : NetL} {i o : Int} (h : ShapeOk n i o) : 2 ≤ n.places := by
  have h1 := h.i0
  have h2 := h.o0
  have h3 := h.i1
  have h4 := h.o1
  have h5 := h.ne
  omega
/-- The labels of a right net. -/
theorem lab_ok {n : NetL} (h : netOk n = true) (t : Nat) (ht : t < n.trans.length) : 0 ≤ labT n t ∧ labT n t ≤ 26 := by
  unfold netOk at h
  rw [Bool.and_eq_true, List.all_eq_true] at h
  have := h.2 (tranAt n.trans t) (by unfold tranAt; rw [List.getD_eq_getElem?_getD, List.getElem?_eq_getElem ht]; exact List.getElem_mem ht)
  unfold tranOk tranHead at this
  unfold labT
  simp only [Bool.and_eq_true, decide_eq_true_eq] at this
  omega

end Go.Proofs.Ytakgppoeikcepaa

/- A mark's key, as the model reads it; what a map from marks to numbers holds. -/
namespace Go.Proofs.Ytakgppoeikcepaa
open Go.RowKit Go.Maps Go.WideMaps
set_option linter.unusedVariables false
set_option maxRecDepth 4000

theorem mapM_all {α β : Type} {f : α → Option β} {g : α → β} : ∀ (L : List α), (∀ x ∈ L, f x = some (g x)) → L.mapM f = some (L.map g)
  | [], _ => rfl
  | x :: r, h => by rw [List.mapM_cons, h x (by simp), mapM_all r fun y hy => h y (by simp [hy])]; rfl

theorem flatten_single {α β : Type} (f : α → β) (l : List α) : (l.map fun i => [f i]).flatten = l.map f := by
  induction l with
  | nil => rfl
  | cons x r ih => simp [ih]

theorem key_type : ArrKey Try.prog 133 3 16 := ⟨Try.underlying133, by kernel_rfl, by kernel_rfl, by kernel_rfl⟩
theorem key_law : Keyed Try.prog 133 := Keyed.of_law key_type.law

/-- A number that a word holds. -/
def inWord (z : Int) : Prop := -9223372036854775808 ≤ z ∧ z ≤ 9223372036854775807

theorem wf_word {z : Int} (h : (Lit.int .i64 z).wf = true) : inWord z := by
  simp [Lit.wf, IntKind.min, IntKind.max, IntKind.signed, IntKind.bits] at h
  unfold inWord
  omega

/-- What a mark's key is. -/
def keyLit (xs : List Int) : Lit := .string (keyBytes ((padL xs).map (Lit.int .i64)))

theorem keyOf_pad (xs : List Int) (h : ∀ z ∈ xs, inWord z) : keyOf Try.prog 133 (.agg (padV xs).toArray) = some (keyLit xs) := by
  have hw : ∀ j, (Lit.int .i64 (nth xs j)).wf = true := by
    intro j
    apply WalkArith.wf_i64
    unfold nth
    rcases Nat.lt_or_ge j xs.length with hj | hj
    · simp only [List.getD, List.getElem?_eq_getElem hj, Option.getD_some]
      have := h _ (List.getElem_mem hj)
      unfold inWord at this
      omega
    · simp [List.getD, List.getElem?_eq_none hj]
  have A := key_type
  obtain ⟨m, hm⟩ : ∃ m, Try.prog.types.size = m + 1 := ⟨Try.prog.types.size - 1, by have : 0 < Try.prog.types.size := of_decide_eq_true (by kernel_rfl); omega⟩
  have hkt := A.keyType ⟨m, hm⟩
  have he := Try.underlying3
  unfold keyOf
  simp only [A.hu]
  rw [if_pos (by simp [hkt, Value.formed, A.hu, A.size, padV, padL]), hm]
  unfold Program.keyLits
  simp only [A.hu, Value.cells]
  rw [if_pos (by rw [A.size]; simp [padV, padL])]
  have e : ((List.range 16).mapM fun i => Try.prog.keyLits (m + 1) 3 (((padV xs).toArray.toList.drop (i * Try.prog.cellsOf 3)).take (Try.prog.cellsOf 3))) = some ((List.range 16).map fun i => [Lit.int .i64 (nth xs i)]) := by
    apply mapM_all
    intro i hi
    have hi16 : i < 16 := by simpa using hi
    rw [A.one]
    have e1 : ((padV xs).toArray.toList.drop (i * 1)).take 1 = [Value.int .i64 (nth xs i)] := by
      have hl : (padV xs).length = 16 := by simp [padV, padL]
      rw [List.drop_eq_getElem_cons (by simp [hl]; omega)]
      simp [padV, padL]
    rw [e1]
    unfold Program.keyLits
    simp [he, hw]
  rw [e]
  simp only [Option.map_some, keyLit, padL, List.map_map, flatten_single]
  rfl

theorem keyLit_inj {xs ys : List Int} (hx : ∀ z ∈ xs, inWord z) (hy : ∀ z ∈ ys, inWord z) (hl : xs.length = ys.length) (h16 : xs.length ≤ 16) (e : keyLit xs = keyLit ys) : xs = ys := by
  have h1 := keyOf_pad xs hx
  have h2 := keyOf_pad ys hy
  rw [← e] at h2
  have h3 := key_law.inj h1 h2
  injection h3 with h3
  have h4 : padV xs = padV ys := by simpa using h3
  apply eq_of_nth xs ys hl
  intro j hj
  have h5 : (padV xs)[j]? = (padV ys)[j]? := by rw [h4]
  have hj16 : j < 16 := by omega
  simpa [padV, padL, hj16] using h5

theorem right_word {xs : List Int} (h : rightL xs = true) : ∀ z ∈ xs, inWord z := by
  intro z hz
  obtain ⟨j, hj, e⟩ := List.getElem_of_mem hz
  have := okTok_nth h j
  have e2 : nth xs j = z := by simp [nth, List.getD, List.getElem?_eq_getElem hj, e]
  rw [e2] at this
  unfold inWord
  omega

/-- What the map from marks to numbers says, of marks of P places. -/
structure Says (P : Nat) (ms : List (List Int)) (D : DataW Unit) : Prop where
  yes : ∀ x g, x.length = P → (∀ z ∈ x, inWord z) → findM ms x = some g → has D (keyLit x) = true ∧ D.atKey (keyLit x) (.lit (.int .i64 0)) = .lit (.int .i64 (g : Int))
  no : ∀ x, x.length = P → (∀ z ∈ x, inWord z) → findM ms x = none → has D (keyLit x) = false

theorem says_nil (P : Nat) : Says P [] (.map []) := ⟨fun x g _ _ h => by simp [findM] at h, fun x _ _ _ => rfl⟩

theorem findM_append {ms : List (List Int)} {x z : List Int} : findM (ms ++ [z]) x = match findM ms x with | some g => some g | none => if z = x then some ms.length else none := by
  unfold findM
  rw [List.findIdx?_append]
  cases h : ms.findIdx? (· == x) with
  | some g => rfl
  | none =>
    by_cases e : z = x
    · subst e; simp [List.findIdx?_cons]
    · have e2 : (z == x) = false := by simpa using e
      simp [List.findIdx?_cons, e]

theorem Says.put {P : Nat} {ms : List (List Int)} {D : DataW Unit} (h : Says P ms D) (hP : P ≤ 16) (hD : IsMap D) {z : List Int} (hz : z.length = P) (hw : ∀ y ∈ z, inWord y) (hn : findM ms z = none) :
    Says P (ms ++ [z]) (D.put (keyLit z) (.lit (.int .i64 (ms.length : Int)))) := by
  have hk : WideAt.IsKeyLit (keyLit z) := trivial
  refine ⟨fun x g hx hwx hf => ?_, fun x hx hwx hf => ?_⟩
  · rw [findM_append] at hf
    by_cases e : z = x
    · subst e
      rw [hn] at hf
      simp at hf
      subst hf
      exact ⟨has_put_same hD hk _, atKey_put_same hD hk _ _⟩
    · have hne : keyLit x ≠ keyLit z := fun q => e (keyLit_inj hw hwx (by omega) (by omega) q.symm)
      cases hq : findM ms x with
      | none => rw [hq] at hf; simp [e] at hf
      | some g' =>
        rw [hq] at hf
        injection hf with hf
        subst hf
        rw [has_put_other hne, atKey_put_other hne]
        exact h.yes x g' hx hwx hq
  · rw [findM_append] at hf
    by_cases e : z = x
    · subst e; rw [hn] at hf; simp at hf
    · have hne : keyLit x ≠ keyLit z := fun q => e (keyLit_inj hw hwx (by omega) (by omega) q.symm)
      cases hq : findM ms x with
      | some g' => rw [hq] at hf; simp at hf
      | none => rw [has_put_other hne]; exact h.no x hx hwx hq

end Go.Proofs.Ytakgppoeikcepaa

/- A search of package reach while it goes on: where it lies, and what it hangs on. -/
namespace Go.Proofs.Ytakgppoeikcepaa
open Go.RowKit Go.Maps
set_option linter.unusedVariables false
set_option maxRecDepth 4000

/-- All that hangs on blocks outside S still does, outside S', and reads as it did. -/
structure Keeps (w : World) (S : Nat → Prop) (w' : World) (S' : Nat → Prop) : Prop where
  size : w.heap.size ≤ w'.heap.size
  block : ∀ k, k < w.heap.size → ¬ S k → w'.heap[k]? = w.heap[k]? ∧ ¬ S' k

theorem Keeps.on {w w' : World} {S S' : Nat → Prop} {R : World → Prop} (h : Keeps w S w' S') (hR : On (fun k => ¬ S k) w R) : On (fun k => ¬ S' k) w' R :=
  fun w2 hs hk => hR w2 (Nat.le_trans h.size hs) fun k hlt hS => (hk k (Nat.lt_of_lt_of_le hlt h.1) (h.2 k hlt hS).2).trans (h.2 k hlt hS).1
theorem Keeps.onE {w w' : World} {S S' E : Nat → Prop} {R : World → Prop} (h : Keeps w S w' S') (hR : On (fun k => E k ∧ ¬ S k) w R) : On (fun k => E k ∧ ¬ S' k) w' R :=
  fun w2 hs hk => hR w2 (Nat.le_trans h.size hs) fun k hlt hS => (hk k (Nat.lt_of_lt_of_le hlt h.size) ⟨hS.1, (h.block k hlt hS.2).2⟩).trans (h.block k hlt hS.2).1
theorem Keeps.refl (w : World) (S : Nat → Prop) : Keeps w S w S := ⟨Nat.le_refl _, fun k _ h => ⟨rfl, h⟩⟩
theorem Keeps.trans {w w1 w2 : World} {S S1 S2 : Nat → Prop} (h : Keeps w S w1 S1) (g : Keeps w1 S1 w2 S2) : Keeps w S w2 S2 :=
  ⟨Nat.le_trans h.1 g.1, fun k hlt hS => ⟨(g.2 k (Nat.lt_of_lt_of_le hlt h.1) (h.2 k hlt hS).2).1.trans (h.2 k hlt hS).1, (g.2 k (Nat.lt_of_lt_of_le hlt h.1) (h.2 k hlt hS).2).2⟩⟩
theorem Keeps.below {w w' : World} (hb : Below w.heap.size w w') (S : Nat → Prop) : Keeps w S w' S := ⟨hb.size, fun k hlt h => ⟨hb.block k hlt, h⟩⟩

/-- The blocks that a search writes. -/
def mineS (x mb : Nat) (mv av bv : Value) (k : Nat) : Prop := k = x ∨ k = mb ∨ mv.ownBlock = some k ∨ av.ownBlock = some k ∨ bv.ownBlock = some k

theorem setCell_block {w : World} {x i : Nat} {cs : Array Value} {t : TypeId} {fr : Nat × Nat} (h : w.heap[x]? = some (.cells cs t fr)) (u : Value) :
    (w.setCell ⟨x, i, none⟩ u).heap[x]? = some (.cells (cs.setIfInBounds i u) t fr) := by
  rw [setCell_eq_setRow w x i cs t fr u h]
  exact setRow_heap w x cs _ t fr h

/-- A row grows, and the cell that holds it is written. -/
theorem grow_at {x i : Nat} {wr wC : World} {v v' : Value} {cs : Array Value} {t : TypeId} (hx : x < wr.heap.size) (hg : wr.grownBy wC v.ownBlock) (hv : v.ownBlock ≠ some x) (hc : wr.heap[x]? = some (.cells cs t (0, 0))) :
    (wC.setCell ⟨x, i, none⟩ v').heap[x]? = some (.cells (cs.setIfInBounds i v') t (0, 0)) ∧ wr.heap.size ≤ (wC.setCell ⟨x, i, none⟩ v').heap.size ∧
      ∀ k, k < wr.heap.size → k ≠ x → v.ownBlock ≠ some k → (wC.setCell ⟨x, i, none⟩ v').heap[k]? = wr.heap[k]? := by
  refine ⟨setCell_block ((hg.block x hx fun e => hv e.symm).trans hc) v', Nat.le_trans hg.size (by simp [World.setCell]), fun k hlt hk hr => ?_⟩
  exact grown_set hg ⟨x, i, none⟩ rfl v' hlt hk hr

/-- A search: its struct lies at block x, its map at block mb; its rows are its own; its marks hang on none of these, and on nothing older than block A. -/
structure SearchAt (A x mb B : Nat) (M : Int) (W wr : World) (ms : List (List Int)) (ar bys : List ArcL) (c : Nat) (D : DataW Unit) (mv av bv : Value) (us : List Value) : Prop where
  rowM : wr.ownsRow B 25 1 mv us.length us
  rowA : wr.ownsRow B 69 3 av ar.length (arcCells ar)
  rowB : wr.ownsRow B 69 3 bv bys.length (arcCells bys)
  map : wr.ownsMap Try.prog 133 (plainElem Try.prog 3) mb c D
  below : Below B W wr
  hA : A ≤ B
  hx : B ≤ x
  hmb : B ≤ mb
  hlt : x < wr.heap.size
  cells : wr.heap[x]? = some (.cells #[.int .i64 M, mv, av, .map (some mb), bv] 85 (0, 0))
  ne : x ≠ mb
  apM : mv.ownBlock ≠ some x ∧ mv.ownBlock ≠ some mb
  apA : av.ownBlock ≠ some x ∧ av.ownBlock ≠ some mb
  apB : bv.ownBlock ≠ some x ∧ bv.ownBlock ≠ some mb
  apMA : ∀ k, mv.ownBlock = some k → av.ownBlock ≠ some k
  apMB : ∀ k, mv.ownBlock = some k → bv.ownBlock ≠ some k
  apAB : ∀ k, av.ownBlock = some k → bv.ownBlock ≠ some k
  len : us.length = ms.length
  els : ∀ j (hj : j < us.length), us[j].oneCell' = true ∧ On (fun k => A ≤ k ∧ ¬ mineS x mb mv av bv k) wr (fun w' => Ints w' us[j] (markAt ms j))

section
variable {A x mb B : Nat} {M : Int} {W wr : World} {ms : List (List Int)} {ar bys : List ArcL} {c : Nat} {D : DataW Unit} {mv av bv : Value} {us : List Value}

theorem SearchAt.to {w' : World} (h : SearchAt A x mb B M W wr ms ar bys c D mv av bv us) (hb : Below wr.heap.size wr w') : SearchAt A x mb B M W w' ms ar bys c D mv av bv us :=
  { h with
    rowM := ((ownsRow_on h.rowM).below hb).now
    rowA := ((ownsRow_on h.rowA).below hb).now
    rowB := ((ownsRow_on h.rowB).below hb).now
    map := by obtain ⟨es, cl, h1, h2⟩ := h.map; exact ⟨es, cl, by rw [hb.block mb (Array.getElem?_eq_some_iff.1 h1).1]; exact h1, h2⟩
    below := h.below.trans (hb.mono (Nat.le_trans h.hx (Nat.le_of_lt h.hlt)))
    hlt := Nat.lt_of_lt_of_le h.hlt hb.size
    cells := by rw [hb.block x h.hlt]; exact h.cells
    els := fun j hj => ⟨(h.els j hj).1, (h.els j hj).2.below hb⟩ }

theorem SearchAt.base (h : SearchAt A x mb B M W wr ms ar bys c D mv av bv us) : B ≤ wr.heap.size := Nat.le_trans h.hx (Nat.le_of_lt h.hlt)

/-- One more entry in the map. -/
theorem SearchAt.mapped {w1 : World} {c' : Nat} {D' : DataW Unit} (h : SearchAt A x mb B M W wr ms ar bys c D mv av bv us) (hm : w1.ownsMap Try.prog 133 (plainElem Try.prog 3) mb c' D') (hg : wr.grownBy w1 (some mb)) :
    SearchAt A x mb B M W w1 ms ar bys c' D' mv av bv us ∧ Keeps wr (mineS x mb mv av bv) w1 (mineS x mb mv av bv) := by
  have hK : Keeps wr (mineS x mb mv av bv) w1 (mineS x mb mv av bv) := ⟨hg.size, fun k hlt hk => ⟨hg.block k hlt (fun e => hk (.inr (.inl (by injection e)))), hk⟩⟩
  refine ⟨{ h with
    rowM := ((ownsRow_on h.rowM).grown hg fun k _ hk e => h.apM.2 (by rw [← e]; exact hk.1)).now
    rowA := ((ownsRow_on h.rowA).grown hg fun k _ hk e => h.apA.2 (by rw [← e]; exact hk.1)).now
    rowB := ((ownsRow_on h.rowB).grown hg fun k _ hk e => h.apB.2 (by rw [← e]; exact hk.1)).now
    map := hm
    below := h.below.grown hg h.base (fun k hk => by injection hk with hk; subst hk; exact h.hmb)
    hlt := Nat.lt_of_lt_of_le h.hlt hg.size
    cells := by rw [hg.block x h.hlt (fun e => h.ne (by injection e))]; exact h.cells
    els := fun j hj => ⟨(h.els j hj).1, hK.onE (h.els j hj).2⟩ }, hK⟩

/-- One more mark. -/
theorem SearchAt.mark {wC : World} {mv' r : Value} {z : List Int} (h : SearchAt A x mb B M W wr ms ar bys c D mv av bv us) (h1 : r.oneCell' = true)
    (hr : On (fun k => A ≤ k ∧ ¬ mineS x mb mv av bv k) wr (fun w' => Ints w' r z))
    (hown : wC.ownsRow B 25 1 mv' (us.length + 1) (us ++ [r])) (hg : wr.grownBy wC mv.ownBlock) (hat : mv'.ownBlock = mv.ownBlock ∨ mv'.ownBlock = some wr.heap.size) :
    SearchAt A x mb B M W (wC.setCell ⟨x, 1, none⟩ mv') (ms ++ [z]) ar bys c D mv' av bv (us ++ [r]) ∧ Keeps wr (mineS x mb mv av bv) (wC.setCell ⟨x, 1, none⟩ mv') (mineS x mb mv' av bv) := by
  obtain ⟨hc, hsz, hk⟩ := grow_at (i := 1) (v' := mv') h.hlt hg h.apM.1 h.cells
  have hmlt := h.map.lt
  have hA : ∀ k, av.ownBlock = some k → B ≤ k ∧ k < wr.heap.size := fun k hk => ownsRow_lt h.rowA hk
  have hB : ∀ k, bv.ownBlock = some k → B ≤ k ∧ k < wr.heap.size := fun k hk => ownsRow_lt h.rowB hk
  have hM : ∀ k, mv.ownBlock = some k → B ≤ k ∧ k < wr.heap.size := fun k hk => ownsRow_lt h.rowM hk
  have ap' : ∀ k, k < wr.heap.size → mv.ownBlock ≠ some k → mv'.ownBlock ≠ some k := by
    intro k hlt hne
    rcases hat with e | e <;> rw [e]
    · exact hne
    · simp; omega
  have apx := ap' x h.hlt h.apM.1
  have hK : Keeps wr (mineS x mb mv av bv) (wC.setCell ⟨x, 1, none⟩ mv') (mineS x mb mv' av bv) := by
    refine ⟨hsz, fun k hlt hn => ⟨hk k hlt (fun e => hn (.inl e)) (fun e => hn (.inr (.inr (.inl e)))), ?_⟩⟩
    rintro (e | e | e | e)
    · exact hn (.inl e)
    · exact hn (.inr (.inl e))
    · exact ap' k hlt (fun e => hn (.inr (.inr (.inl e)))) e
    · exact hn (.inr (.inr (.inr e)))
  refine ⟨⟨?_, ?_, ?_, ?_, ?_, h.hA, h.hx, h.hmb, Nat.lt_of_lt_of_le h.hlt hsz, by simpa using hc, h.ne, ⟨apx, ap' mb hmlt h.apM.2⟩, h.apA, h.apB, ?_, ?_, h.apAB, by simp [h.len], fun j hj => ?_⟩, hK⟩
  · have := (ownsRow_on hown).set (a := ⟨x, 1, none⟩) (fun e => apx e.1) mv'
    simpa using this.now
  · exact ((ownsRow_on h.rowA).to hsz fun k hlt q => hk k hlt (fun e => h.apA.1 (by rw [← e]; exact q.1)) (fun e => h.apMA k e q.1)).now
  · exact ((ownsRow_on h.rowB).to hsz fun k hlt q => hk k hlt (fun e => h.apB.1 (by rw [← e]; exact q.1)) (fun e => h.apMB k e q.1)).now
  · obtain ⟨es, cl, m1, m2⟩ := h.map
    exact ⟨es, cl, by rw [hk mb hmlt (fun e => h.ne e.symm) h.apM.2]; exact m1, m2⟩
  · exact (h.below.grown hg h.base (fun k hk => (hM k hk).1)).setCell (p := ⟨x, 1, none⟩) h.hx _
  · intro k hk e
    rcases hat with q | q
    · rw [q] at hk; exact h.apMA k hk e
    · rw [q] at hk; injection hk with hk; have := (hA k e).2; omega
  · intro k hk e
    rcases hat with q | q
    · rw [q] at hk; exact h.apMB k hk e
    · rw [q] at hk; injection hk with hk; have := (hB k e).2; omega
  · by_cases hjl : j < us.length
    · rw [List.getElem_append_left hjl]
      refine ⟨(h.els j hjl).1, ?_⟩
      rw [markAt_append (by rw [← h.len]; exact hjl)]
      exact hK.onE (h.els j hjl).2
    · have e : j = us.length := by simp at hj; omega
      subst e
      rw [List.getElem_append_right (Nat.le_refl _)]
      simp only [Nat.sub_self, List.getElem_cons_zero]
      refine ⟨h1, ?_⟩
      rw [h.len, markAt_last]
      exact hK.onE hr

/-- One more arc. -/
theorem SearchAt.arc {wC : World} {av' : Value} {a : ArcL} (h : SearchAt A x mb B M W wr ms ar bys c D mv av bv us)
    (hown : wC.ownsRow B 69 3 av' (ar.length + 1) (arcCells ar ++ [.int .i64 (a.frm : Int), .int .i64 (a.tran : Int), .int .i64 (a.dst : Int)])) (hg : wr.grownBy wC av.ownBlock) (hat : av'.ownBlock = av.ownBlock ∨ av'.ownBlock = some wr.heap.size) :
    SearchAt A x mb B M W (wC.setCell ⟨x, 2, none⟩ av') ms (ar ++ [a]) bys c D mv av' bv us ∧ Keeps wr (mineS x mb mv av bv) (wC.setCell ⟨x, 2, none⟩ av') (mineS x mb mv av' bv) := by
  obtain ⟨hc, hsz, hk⟩ := grow_at (i := 2) (v' := av') h.hlt hg h.apA.1 h.cells
  have hmlt := h.map.lt
  have hA : ∀ k, av.ownBlock = some k → B ≤ k ∧ k < wr.heap.size := fun k hk => ownsRow_lt h.rowA hk
  have hB : ∀ k, bv.ownBlock = some k → B ≤ k ∧ k < wr.heap.size := fun k hk => ownsRow_lt h.rowB hk
  have hM : ∀ k, mv.ownBlock = some k → B ≤ k ∧ k < wr.heap.size := fun k hk => ownsRow_lt h.rowM hk
  have ap' : ∀ k, k < wr.heap.size → av.ownBlock ≠ some k → av'.ownBlock ≠ some k := by
    intro k hlt hne
    rcases hat with e | e <;> rw [e]
    · exact hne
    · simp; omega
  have apx := ap' x h.hlt h.apA.1
  have hK : Keeps wr (mineS x mb mv av bv) (wC.setCell ⟨x, 2, none⟩ av') (mineS x mb mv av' bv) := by
    refine ⟨hsz, fun k hlt hn => ⟨hk k hlt (fun e => hn (.inl e)) (fun e => hn (.inr (.inr (.inr (.inl e))))), ?_⟩⟩
    rintro (e | e | e | e | e)
    · exact hn (.inl e)
    · exact hn (.inr (.inl e))
    · exact hn (.inr (.inr (.inl e)))
    · exact ap' k hlt (fun e => hn (.inr (.inr (.inr (.inl e))))) e
    · exact hn (.inr (.inr (.inr (.inr e))))
  refine ⟨⟨?_, ?_, ?_, ?_, ?_, h.hA, h.hx, h.hmb, Nat.lt_of_lt_of_le h.hlt hsz, by simpa using hc, h.ne, h.apM, ⟨apx, ap' mb hmlt h.apA.2⟩, h.apB, ?_, h.apMB, ?_, h.len, fun j hj => ⟨(h.els j hj).1, hK.onE (h.els j hj).2⟩⟩, hK⟩
  · exact ((ownsRow_on h.rowM).to hsz fun k hlt q => hk k hlt (fun e => h.apM.1 (by rw [← e]; exact q.1)) (h.apMA k q.1)).now
  · have := (ownsRow_on hown).set (a := ⟨x, 2, none⟩) (fun e => apx e.1) av'
    rw [arcCells_append]
    simpa using this.now
  · exact ((ownsRow_on h.rowB).to hsz fun k hlt q => hk k hlt (fun e => h.apB.1 (by rw [← e]; exact q.1)) (fun e => h.apAB k e q.1)).now
  · obtain ⟨es, cl, m1, m2⟩ := h.map
    exact ⟨es, cl, by rw [hk mb hmlt (fun e => h.ne e.symm) h.apA.2]; exact m1, m2⟩
  · exact (h.below.grown hg h.base (fun k hk => (hA k hk).1)).setCell (p := ⟨x, 2, none⟩) h.hx _
  · intro k hk e
    rcases hat with q | q
    · rw [q] at e; exact h.apMA k hk e
    · rw [q] at e; injection e with e; have := (hM k hk).2; omega
  · intro k hk e
    rcases hat with q | q
    · rw [q] at hk; exact h.apAB k hk e
    · rw [q] at hk; injection hk with hk; have := (hB k e).2; omega

/-- One more that tells how a mark was found. -/
theorem SearchAt.by {wC : World} {bv' : Value} {a : ArcL} (h : SearchAt A x mb B M W wr ms ar bys c D mv av bv us)
    (hown : wC.ownsRow B 69 3 bv' (bys.length + 1) (arcCells bys ++ [.int .i64 (a.frm : Int), .int .i64 (a.tran : Int), .int .i64 (a.dst : Int)])) (hg : wr.grownBy wC bv.ownBlock) (hat : bv'.ownBlock = bv.ownBlock ∨ bv'.ownBlock = some wr.heap.size) :
    SearchAt A x mb B M W (wC.setCell ⟨x, 4, none⟩ bv') ms ar (bys ++ [a]) c D mv av bv' us ∧ Keeps wr (mineS x mb mv av bv) (wC.setCell ⟨x, 4, none⟩ bv') (mineS x mb mv av bv') := by
  obtain ⟨hc, hsz, hk⟩ := grow_at (i := 4) (v' := bv') h.hlt hg h.apB.1 h.cells
  have hmlt := h.map.lt
  have hA : ∀ k, av.ownBlock = some k → B ≤ k ∧ k < wr.heap.size := fun k hk => ownsRow_lt h.rowA hk
  have hB : ∀ k, bv.ownBlock = some k → B ≤ k ∧ k < wr.heap.size := fun k hk => ownsRow_lt h.rowB hk
  have hM : ∀ k, mv.ownBlock = some k → B ≤ k ∧ k < wr.heap.size := fun k hk => ownsRow_lt h.rowM hk
  have ap' : ∀ k, k < wr.heap.size → bv.ownBlock ≠ some k → bv'.ownBlock ≠ some k := by
    intro k hlt hne
    rcases hat with e | e <;> rw [e]
    · exact hne
    · simp; omega
  have apx := ap' x h.hlt h.apB.1
  have hK : Keeps wr (mineS x mb mv av bv) (wC.setCell ⟨x, 4, none⟩ bv') (mineS x mb mv av bv') := by
    refine ⟨hsz, fun k hlt hn => ⟨hk k hlt (fun e => hn (.inl e)) (fun e => hn (.inr (.inr (.inr (.inr e))))), ?_⟩⟩
    rintro (e | e | e | e | e)
    · exact hn (.inl e)
    · exact hn (.inr (.inl e))
    · exact hn (.inr (.inr (.inl e)))
    · exact hn (.inr (.inr (.inr (.inl e))))
    · exact ap' k hlt (fun e => hn (.inr (.inr (.inr (.inr e))))) e
  refine ⟨⟨?_, ?_, ?_, ?_, ?_, h.hA, h.hx, h.hmb, Nat.lt_of_lt_of_le h.hlt hsz, by simpa using hc, h.ne, h.apM, h.apA, ⟨apx, ap' mb hmlt h.apB.2⟩, h.apMA, ?_, ?_, h.len, fun j hj => ⟨(h.els j hj).1, hK.onE (h.els j hj).2⟩⟩, hK⟩
  · exact ((ownsRow_on h.rowM).to hsz fun k hlt q => hk k hlt (fun e => h.apM.1 (by rw [← e]; exact q.1)) (h.apMB k q.1)).now
  · exact ((ownsRow_on h.rowA).to hsz fun k hlt q => hk k hlt (fun e => h.apA.1 (by rw [← e]; exact q.1)) (h.apAB k q.1)).now
  · have := (ownsRow_on hown).set (a := ⟨x, 4, none⟩) (fun e => apx e.1) bv'
    rw [arcCells_append]
    simpa using this.now
  · obtain ⟨es, cl, m1, m2⟩ := h.map
    exact ⟨es, cl, by rw [hk mb hmlt (fun e => h.ne e.symm) h.apB.2]; exact m1, m2⟩
  · exact (h.below.grown hg h.base (fun k hk => (hB k hk).1)).setCell (p := ⟨x, 4, none⟩) h.hx _
  · intro k hk e
    rcases hat with q | q
    · rw [q] at e; exact h.apMB k hk e
    · rw [q] at e; injection e with e; have := (hM k hk).2; omega
  · intro k hk e
    rcases hat with q | q
    · rw [q] at e; exact h.apAB k hk e
    · rw [q] at e; injection e with e; have := (hA k hk).2; omega

theorem SearchAt.at (h : SearchAt A x mb B M W wr ms ar bys c D mv av bv us) :
    wr.cell? ⟨x, 0, none⟩ = some (.int .i64 M) ∧ wr.cell? ⟨x, 1, none⟩ = some mv ∧ wr.cell? ⟨x, 2, none⟩ = some av ∧ wr.cell? ⟨x, 3, none⟩ = some (.map (some mb)) ∧ wr.cell? ⟨x, 4, none⟩ = some bv ∧ ∀ j, wr.frozen? ⟨x, j, none⟩ = false := by
  have hc := h.cells
  refine ⟨?_, ?_, ?_, ?_, ?_, fun j => ?_⟩
  all_goals simp [World.cell?, World.frozen?, hc]

theorem SearchAt.after {wC : World} {row : Option Nat} (h : SearchAt A x mb B M W wr ms ar bys c D mv av bv us) (hg : wr.grownBy wC row) (hr : row ≠ some x) :
    wC.cell? ⟨x, 0, none⟩ = some (.int .i64 M) ∧ wC.cell? ⟨x, 1, none⟩ = some mv ∧ wC.cell? ⟨x, 2, none⟩ = some av ∧ wC.cell? ⟨x, 3, none⟩ = some (.map (some mb)) ∧ wC.cell? ⟨x, 4, none⟩ = some bv ∧ ∀ j, wC.frozen? ⟨x, j, none⟩ = false := by
  have hc := (hg.block x h.hlt fun e => hr e.symm).trans h.cells
  refine ⟨?_, ?_, ?_, ?_, ?_, fun j => ?_⟩
  all_goals simp [World.cell?, World.frozen?, hc]

/-- A block that is none of its own stands while one of its rows grows. -/
theorem Keeps.box3 {w w' : World} {S S' : Nat → Prop} (h : Keeps w S w' S') {b : Nat} (hb : ¬ S b) {u0 u1 u2 : Value} (hx : Box3 w b u0 u1 u2) : Box3 w' b u0 u1 u2 := by
  obtain ⟨y0, y1, y2, y3⟩ := hx
  have hq := (h.2 b y0 hb).1
  exact ⟨Nat.lt_of_lt_of_le y0 h.1, (World.cell?_of_block (a := ⟨b, 0, none⟩) hq).trans y1, (World.cell?_of_block (a := ⟨b, 1, none⟩) hq).trans y2, (World.cell?_of_block (a := ⟨b, 2, none⟩) hq).trans y3⟩
theorem Keeps.box2 {w w' : World} {S S' : Nat → Prop} (h : Keeps w S w' S') {b : Nat} (hb : ¬ S b) {u0 u1 : Value} (hx : Box2 w b u0 u1) : Box2 w' b u0 u1 := by
  obtain ⟨y0, y1, y2⟩ := hx
  have hq := (h.2 b y0 hb).1
  exact ⟨Nat.lt_of_lt_of_le y0 h.1, (World.cell?_of_block (a := ⟨b, 0, none⟩) hq).trans y1, (World.cell?_of_block (a := ⟨b, 1, none⟩) hq).trans y2⟩

/-- A block that was made behind it is none of its own. -/
theorem SearchAt.notMine (h : SearchAt A x mb B M W wr ms ar bys c D mv av bv us) {b : Nat} (hb : wr.heap.size ≤ b) : ¬ mineS x mb mv av bv b := by
  rintro (e | e | e | e | e)
  · have := h.hlt; omega
  · have := h.map.lt; omega
  · have := ownsRow_lt h.rowM e; omega
  · have := ownsRow_lt h.rowA e; omega
  · have := ownsRow_lt h.rowB e; omega
/-- Nor one that was there ahead of it. -/
theorem SearchAt.notMineOld (h : SearchAt A x mb B M W wr ms ar bys c D mv av bv us) {b : Nat} (hb : b < B) : ¬ mineS x mb mv av bv b := by
  have h1 := h.hx
  have h2 := h.hmb
  rintro (e | e | e | e | e)
  · omega
  · omega
  · have := ownsRow_lt h.rowM e; omega
  · have := ownsRow_lt h.rowA e; omega
  · have := ownsRow_lt h.rowB e; omega

theorem SearchAt.sliceM (h : SearchAt A x mb B M W wr ms ar bys c D mv av bv us) : ∃ a cap, mv = .slice a ms.length cap := by
  rcases h.rowM.2 with ⟨e, h0⟩ | ⟨g, cap', cur, e, _⟩
  · exact ⟨none, 0, by rw [e, ← h.len, h0]⟩
  · exact ⟨_, _, by rw [e, h.len]⟩
theorem SearchAt.sliceA (h : SearchAt A x mb B M W wr ms ar bys c D mv av bv us) : ∃ a cap, av = .slice a ar.length cap := by
  rcases h.rowA.2 with ⟨e, h0⟩ | ⟨g, cap', cur, e, _⟩
  · exact ⟨none, 0, by rw [e, h0]⟩
  · exact ⟨_, _, e⟩
theorem SearchAt.sliceB (h : SearchAt A x mb B M W wr ms ar bys c D mv av bv us) : ∃ a cap, bv = .slice a bys.length cap := by
  rcases h.rowB.2 with ⟨e, h0⟩ | ⟨g, cap', cur, e, _⟩
  · exact ⟨none, 0, by rw [e, h0]⟩
  · exact ⟨_, _, e⟩

/-- What was made behind it hangs on none of its blocks. -/
theorem SearchAt.fresh {w' : World} (h : SearchAt A x mb B M W wr ms ar bys c D mv av bv us) {R : World → Prop} (hR : On (fun k => wr.heap.size ≤ k) w' R) :
    On (fun k => A ≤ k ∧ ¬ mineS x mb mv av bv k) w' R := by
  have h1 := h.hA
  have h2 := h.base
  exact hR.weaken fun k _ hk => ⟨by omega, h.notMine hk⟩

/-- What was there ahead of it hangs on none of its blocks. -/
theorem SearchAt.older {w' : World} (h : SearchAt A x mb B M W wr ms ar bys c D mv av bv us) {R : World → Prop} (hR : On (fun k => k < B) w' R) :
    On (fun k => ¬ mineS x mb mv av bv k) w' R := by
  exact hR.weaken fun k _ hk => h.notMineOld hk

end

end Go.Proofs.Ytakgppoeikcepaa
