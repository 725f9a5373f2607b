import Derived.Test.YtffaamljogbmlaaGr04
import Derived.Test.YtffaamljogbmlaaGr00
import Derived.Laws.ResultCell
/- Cases in memory; a box that a case is answered from. -/
namespace Go.Proofs.Ytffaamljogbmlaa
open Go.RowKit
set_option linter.unusedVariables false
set_option maxRecDepth 4000

theorem len_of_ints {w : World} {a : Option Addr} {l c : Nat} {xs : List Int} (h : Ints w (.slice a l c) xs) : xs.length = l := by
  obtain ⟨a', l', c', e, h, _⟩ := h
  injection e with _ e2 _
  rw [h, e2]

/-- A value that is this case. -/
def CaseV (w : World) (v : Value) (c : CaseL) : Prop := ∃ a l p a' l' p', v = .agg #[.slice a l p, .slice a' l' p'] ∧ Ints w (.slice a l p) c.mark ∧ Ints w (.slice a' l' p') c.busy
theorem CaseV.below {w w' : World} {v : Value} {c : CaseL} (h : CaseV w v c) (hb : Below w.heap.size w w') : CaseV w' v c := by
  obtain ⟨a, l, p, a', l', p', e, h1, h2⟩ := h
  exact ⟨a, l, p, a', l', p', e, h1.below hb, h2.below hb⟩
theorem CaseV.mk' {w : World} {mv bv : Value} {ms bs : List Int} (h1 : Ints w mv ms) (h2 : Ints w bv bs) : CaseV w (.agg #[mv, bv]) ⟨ms, bs⟩ := by
  obtain ⟨a, l, p, rfl, _⟩ := id h1
  obtain ⟨a', l', p', rfl, _⟩ := id h2
  exact ⟨a, l, p, a', l', p', rfl, h1, h2⟩
theorem CaseV.none (w : World) : CaseV w (.agg #[.slice none 0 0, .slice none 0 0]) noCase := CaseV.mk' (Ints.nil w) (Ints.nil w)

/-- What a call answers that makes a case, or tells why not. -/
def GivesC (w : World) (p : CaseL × Int) (e : Ending) (w' : World) : Prop := ∃ r, e = .returned (.tuple #[r, .int .i64 p.2]) ∧ CaseV w' r p.1 ∧ Below w.heap.size w w'
theorem givesC_of {w w' : World} {r : Value} {p : CaseL × Int} {c : CaseL} {d : Int} (hp : p = (c, d)) (hr : CaseV w' r c) (hb : Below w.heap.size w w') : GivesC w p (.returned (.tuple #[r, .int .i64 d])) w' := by
  subst hp; exact ⟨r, rfl, hr, hb⟩

/-- A cell that holds a slice is none that numbers are read from. -/
theorem Ints.putS {w : World} {v : Value} {xs : List Int} {p : Addr} {a : Option Addr} {l c : Nat} (h : Ints w v xs) (hp : w.cell? p = some (.slice a l c)) (u : Value) : Ints (w.setCell p u) v xs := by
  obtain ⟨a', len, cap, e, hl, hm, hs, hr⟩ := h
  refine ⟨a', len, cap, e, hl, hm, hs, fun j hj => ?_⟩
  obtain ⟨b, off, ha, hb, hc⟩ := hr j hj
  refine ⟨b, off, ha, by simpa [World.setCell] using hb, ?_⟩
  rw [World.cell?_setCell_other _ _ _ _ (by intro e; rw [← e, hp] at hc; cases hc)]
  exact hc

/-- A box of two slices that the call itself has made, at block R. -/
structure ResC (w : World) (R : Nat) (a : Option Addr) (l c : Nat) (a' : Option Addr) (l' c' : Nat) : Prop where
  cells : w.heap[R]? = some (.cells #[.slice a l c, .slice a' l' c'] 27 (0, 0))
theorem ResC.below {w w' : World} {R : Nat} {a a' : Option Addr} {l c l' c' : Nat} (h : ResC w R a l c a' l' c') (hb : Below w.heap.size w w') : ResC w' R a l c a' l' c' :=
  ⟨(hb.block R (Array.getElem?_eq_some_iff.1 h.cells).1).trans h.cells⟩
theorem ResC.facts {w : World} {R : Nat} {a a' : Option Addr} {l c l' c' : Nat} (h : ResC w R a l c a' l' c') :
    w.cell? ⟨R, 0, none⟩ = some (.slice a l c) ∧ w.cell? ⟨R, 1, none⟩ = some (.slice a' l' c') ∧ w.frozen? ⟨R, 0, none⟩ = false ∧ w.frozen? ⟨R, 1, none⟩ = false ∧ R < w.heap.size := by
  have e := h.cells
  exact ⟨by simp [World.cell?, e], by simp [World.cell?, e], by simp [World.frozen?, e], by simp [World.frozen?, e], (Array.getElem?_eq_some_iff.1 e).1⟩
theorem resC_new (w : World) : ResC (w.alloc (.cells #[.slice none 0 0, .slice none 0 0] 27)) w.heap.size none 0 0 none 0 0 := ⟨by
  show (w.heap.push _)[w.heap.size]? = _
  simp⟩

/-- It is filled. -/
theorem ResC.fill {w W w0 : World} {B R : Nat} {a a' : Option Addr} {l c l' c' : Nat} {mv bv : Value} {ms bs : List Int} (h : ResC w R a l c a' l' c') (hb : Below B w0 w) (hR : B ≤ R)
    (hW : (w.setCell ⟨R, 0, none⟩ mv).setCell ⟨R, 1, none⟩ bv = W) (hm : Ints w mv ms) (hv : Ints w bv bs) :
    W.cell? ⟨R, 0, none⟩ = some mv ∧ W.cell? ⟨R, 1, none⟩ = some bv ∧ CaseV W (.agg #[mv, bv]) ⟨ms, bs⟩ ∧ Below B w0 W := by
  obtain ⟨q1, q2, _, _, _⟩ := h.facts
  have e : (w.setCell ⟨R, 0, none⟩ mv).cell? ⟨R, 1, none⟩ = some (.slice a' l' c') := by rw [World.cell?_setCell_other _ _ _ _ (by simp)]; exact q2
  subst hW
  refine ⟨?_, ?_, CaseV.mk' ((hm.putS q1 _).putS e _) ((hv.putS q1 _).putS e _), (hb.setCell (p := ⟨R, 0, none⟩) hR _).setCell (p := ⟨R, 1, none⟩) hR _⟩
  · rw [World.cell?_setCell_other _ _ _ _ (by simp)]
    exact World.cell?_setCell_same _ _ _ q1
  · exact World.cell?_setCell_same _ _ _ e

theorem results_case {fn : Func} {p u : Tmp} {tmps : Array Value} {w : World} {b : Nat} {x y v : Value} (h : fn.results = #[.cell p 27, .tmp u]) (hp : tmps.getD p undef = .pointer (some ⟨b, 0, none⟩)) (hu : tmps.getD u undef = v) (h1 : w.cell? ⟨b, 0, none⟩ = some x) (h2 : w.cell? ⟨b, 1, none⟩ = some y) :
    (results fn tmps).run Try.prog w = .ok (.tuple #[.agg #[x, y], v]) w := by
  rw [results_cell_tmp h, hp, hu]
  simp [asAddr, go_sem, h1, h2]

end Go.Proofs.Ytffaamljogbmlaa

/- Plain words for the net with a place for each work; what is done in a case is a run of it. -/
namespace Go.Proofs.Ytffaamljogbmlaa
set_option linter.unusedVariables false
set_option maxRecDepth 4000

/-- How many of the first so many transitions have a label. -/
def seenTo (ts : List TranL) : Nat → Nat
  | 0 => 0
  | k + 1 => seenTo ts k + (if (tranAt ts k).label = 0 then 0 else 1)
theorem seen_le (ts : List TranL) : ∀ k, seenTo ts k ≤ k
  | 0 => Nat.le_refl _
  | k + 1 => by have := seen_le ts k; simp only [seenTo]; split <;> omega
theorem seen_mono (ts : List TranL) {a b : Nat} (h : a ≤ b) : seenTo ts a ≤ seenTo ts b := by
  induction b with
  | zero => obtain rfl : a = 0 := by omega
            exact Nat.le_refl _
  | succ b ih =>
    by_cases e : a = b + 1
    · subst e; exact Nat.le_refl _
    · have := ih (by omega); simp only [seenTo]; omega
theorem seen_lt (ts : List TranL) {a b : Nat} (h : a < b) (hl : (tranAt ts a).label ≠ 0) : seenTo ts a < seenTo ts b := by
  have h1 : seenTo ts (a + 1) = seenTo ts a + 1 := by simp [seenTo, hl]
  have h2 := seen_mono ts (show a + 1 ≤ b by omega)
  omega
theorem seen_onto (ts : List TranL) : ∀ (m k : Nat), k < seenTo ts m → ∃ t, t < m ∧ (tranAt ts t).label ≠ 0 ∧ seenTo ts t = k
  | 0, k, h => absurd h (Nat.not_lt_zero _)
  | m + 1, k, h => by
    by_cases hk : k < seenTo ts m
    · obtain ⟨t, h1, h2⟩ := seen_onto ts m k hk
      exact ⟨t, by omega, h2⟩
    · simp only [seenTo] at h
      by_cases hl : (tranAt ts m).label = 0
      · rw [if_pos hl] at h; omega
      · rw [if_neg hl] at h
        exact ⟨m, by omega, hl, by omega⟩

def oneAt (S k : Nat) : List Int := mapTo S fun j => if j = k then 1 else 0
theorem one_length (S k : Nat) : (oneAt S k).length = S := mapTo_length _ _
theorem one_at {S k j : Nat} (h : j < S) : nth (oneAt S k) j = if j = k then 1 else 0 := mapTo_nth _ _ _ h

/-- What becomes of a transition: itself, or two, with a place between. -/
def busyT (P S k : Nat) (t : TranL) : List TranL :=
  if t.label = 0 then [⟨0, t.pre ++ zerosL S, t.post ++ zerosL S⟩]
  else [⟨0, t.pre ++ zerosL S, zerosL P ++ oneAt S k⟩, ⟨t.label, zerosL P ++ oneAt S k, t.post ++ zerosL S⟩]
def busyTo (ts : List TranL) (P S : Nat) : Nat → List TranL
  | 0 => []
  | m + 1 => busyTo ts P S m ++ busyT P S (seenTo ts m) (tranAt ts m)
theorem busyTo_length (ts : List TranL) (P S : Nat) : ∀ m, (busyTo ts P S m).length = m + seenTo ts m
  | 0 => rfl
  | m + 1 => by
    simp only [busyTo, seenTo, List.length_append, busyTo_length ts P S m, busyT]
    split
    · simp; omega
    · simp; omega
/-- The net with a place for each work. -/
def busyN (n : NetL) : NetL × Int :=
  if netOk n then
    (if n.places + (seenTo n.trans n.trans.length : Int) > 16 ∨ n.trans.length + seenTo n.trans n.trans.length > 24 then (⟨0, []⟩, 4)
     else (⟨n.places + (seenTo n.trans n.trans.length : Int), busyTo n.trans n.places.toNat (seenTo n.trans n.trans.length) n.trans.length⟩, 0))
  else (⟨0, []⟩, 2)
theorem busy_bad {n : NetL} (h : netOk n = false) : busyN n = (⟨0, []⟩, 2) := by simp [busyN, h]
theorem busy_full {n : NetL} (h : netOk n = true) (hf : n.places + (seenTo n.trans n.trans.length : Int) > 16 ∨ n.trans.length + seenTo n.trans n.trans.length > 24) : busyN n = (⟨0, []⟩, 4) := by simp [busyN, h, hf]
theorem busy_ok {n : NetL} (h : netOk n = true) (hf : ¬ (n.places + (seenTo n.trans n.trans.length : Int) > 16 ∨ n.trans.length + seenTo n.trans n.trans.length > 24)) :
    busyN n = (⟨n.places + (seenTo n.trans n.trans.length : Int), busyTo n.trans n.places.toNat (seenTo n.trans n.trans.length) n.trans.length⟩, 0) := by unfold busyN; rw [if_pos h, if_neg hf]

theorem tran_at_append {xs ys : List TranL} {j : Nat} (h : xs.length ≤ j) : tranAt (xs ++ ys) j = tranAt ys (j - xs.length) := by
  unfold tranAt
  rw [List.getD_eq_getElem?_getD, List.getD_eq_getElem?_getD, List.getElem?_append_right h]
theorem tran_at_left {xs ys : List TranL} {j : Nat} (h : j < xs.length) : tranAt (xs ++ ys) j = tranAt xs j := by
  unfold tranAt
  rw [List.getD_eq_getElem?_getD, List.getD_eq_getElem?_getD, List.getElem?_append_left h]
/-- Where each one lies. -/
theorem busyTo_at (ts : List TranL) (P S : Nat) {t : Nat} : ∀ {m : Nat}, t < m → ∀ j, j < (busyT P S (seenTo ts t) (tranAt ts t)).length → t + seenTo ts t + j < (busyTo ts P S m).length ∧ tranAt (busyTo ts P S m) (t + seenTo ts t + j) = tranAt (busyT P S (seenTo ts t) (tranAt ts t)) j
  | 0, h => absurd h (Nat.not_lt_zero _)
  | m + 1, h => by
    intro j hj
    by_cases e : t = m
    · subst e
      have hl := busyTo_length ts P S t
      simp only [busyTo, List.length_append]
      refine ⟨by omega, ?_⟩
      rw [tran_at_append (by omega), show t + seenTo ts t + j - (busyTo ts P S t).length = j by omega]
    · obtain ⟨h1, h2⟩ := busyTo_at ts P S (show t < m by omega) j hj
      simp only [busyTo, List.length_append]
      exact ⟨by omega, by rw [tran_at_left h1]; exact h2⟩

theorem nth_app {xs ys : List Int} {j : Nat} : nth (xs ++ ys) j = if j < xs.length then nth xs j else nth ys (j - xs.length) := by
  unfold nth
  rw [List.getD_eq_getElem?_getD, List.getD_eq_getElem?_getD, List.getD_eq_getElem?_getD]
  split
  · rename_i h; rw [List.getElem?_append_left h]
  · rename_i h; rw [List.getElem?_append_right (by omega)]

/-- The case is the mark. -/
structure Sim (n : NetL) (P S : Nat) (c : CaseL) (m : List Int) : Prop where
  len : m.length = P + S
  place : ∀ p, p < P → nth m p = nth c.mark p
  work : ∀ t, t < n.trans.length → (tranAt n.trans t).label ≠ 0 → nth m (P + seenTo n.trans t) = nth c.busy t
  none : ∀ t, t < n.trans.length → (tranAt n.trans t).label = 0 → nth c.busy t = 0

/-- What both nets are. -/
structure BusyOk (n : NetL) (P S : Nat) (b : NetL) : Prop where
  ok : netOk n = true
  places : n.places = (P : Int)
  seen : S = seenTo n.trans n.trans.length
  p16 : P + S ≤ 16
  t24 : n.trans.length + S ≤ 24
  net : b = ⟨((P + S : Nat) : Int), busyTo n.trans P S n.trans.length⟩

theorem busy_some {n : NetL} (h : (busyN n).2 = 0) : ∃ P S, BusyOk n P S (busyN n).1 := by
  cases hn : netOk n with
  | false => rw [busy_bad hn] at h; cases h
  | true =>
    by_cases hf : n.places + (seenTo n.trans n.trans.length : Int) > 16 ∨ n.trans.length + seenTo n.trans n.trans.length > 24
    · rw [busy_full hn hf] at h; cases h
    · have hp : 0 ≤ n.places := by
        unfold netOk headOk at hn
        simp only [Bool.and_eq_true, decide_eq_true_eq] at hn
        omega
      exact ⟨n.places.toNat, seenTo n.trans n.trans.length, hn, by omega, rfl, by omega, by omega, by
        rw [busy_ok hn hf]
        show NetL.mk (n.places + (seenTo n.trans n.trans.length : Int)) _ = _
        rw [show n.places + (seenTo n.trans n.trans.length : Int) = ((n.places.toNat + seenTo n.trans n.trans.length : Nat) : Int) by omega]⟩

theorem BusyOk.ok_net {n b : NetL} {P S : Nat} (h : BusyOk n P S b) : netOk b = true := by
  have hw : ∀ k, k < n.trans.length → (tranAt n.trans k).pre.all weightOk = true ∧ (tranAt n.trans k).post.all weightOk = true ∧ 0 ≤ (tranAt n.trans k).label ∧ (tranAt n.trans k).label ≤ 26 ∧ (tranAt n.trans k).pre.length = P ∧ (tranAt n.trans k).post.length = P := fun k hk => by
    have h1 := net_tran h.ok hk
    have h2 := h.places
    simp only [tranOk, tranHead, Bool.and_eq_true, beq_iff_eq, decide_eq_true_eq, List.all_append] at h1
    exact ⟨h1.2.1, h1.2.2, h1.1.1.1.1, h1.1.1.1.2, by omega, by omega⟩
  have hz : ∀ k, (zerosL k).all weightOk = true := fun k => by
    rw [List.all_eq_true]
    intro x hx
    rw [show x = 0 from (List.mem_replicate.1 hx).2]; rfl
  have ho : ∀ k j, (oneAt k j).all weightOk = true := fun k j => by
    rw [List.all_eq_true]
    intro x hx
    unfold oneAt mapTo at hx
    obtain ⟨i, _, rfl⟩ := List.mem_map.1 hx
    split <;> rfl
  have hT : ∀ m, m ≤ n.trans.length → (busyTo n.trans P S m).all (tranOk ((P + S : Nat) : Int)) = true := by
    intro m
    induction m with
    | zero => intro _; rfl
    | succ m ih =>
      intro hm
      obtain ⟨w1, w2, l1, l2, e1, e2⟩ := hw m (by omega)
      simp only [busyTo, List.all_append, Bool.and_eq_true]
      refine ⟨ih (by omega), ?_⟩
      unfold busyT
      split
      · simp [tranOk, tranHead, List.all_append, w1, w2, hz, e1, e2, zeros_length]
      · simp [tranOk, tranHead, List.all_append, w1, w2, hz, ho, e1, e2, zeros_length, one_length, l1, l2]
  rw [h.net]
  unfold netOk headOk
  simp only [Bool.and_eq_true, decide_eq_true_eq]
  have := h.p16
  have := h.t24
  have hs := h.seen
  exact ⟨⟨⟨by omega, by omega⟩, by rw [busyTo_length]; omega⟩, hT _ (Nat.le_refl _)⟩

theorem BusyOk.seen_lt {n b : NetL} {P S : Nat} (h : BusyOk n P S b) {t : Nat} (ht : t < n.trans.length) (hl : (tranAt n.trans t).label ≠ 0) : seenTo n.trans t < S := by
  rw [h.seen]; exact Proofs.Ytffaamljogbmlaa.seen_lt n.trans ht hl

/-- What a firing of the wider net is. -/
theorem BusyOk.fire {n b : NetL} {P S : Nat} (h : BusyOk n P S b) {c c' : CaseL} {m : List Int} {k : Nat} {j : Nat} {pr po : List Int} (hs : Sim n P S c m) (hlt : k + seenTo n.trans k + j < b.trans.length)
    (ht : tranAt b.trans (k + seenTo n.trans k + j) = ⟨(tranAt b.trans (k + seenTo n.trans k + j)).label, pr, po⟩)
    (hm0 : ∀ q, 0 ≤ nth m q ∧ nth m q ≤ 1000000)
    (hcov : ∀ q, nth pr q ≤ nth m q) (hr : ∀ q, 0 ≤ nth m q - nth pr q + nth po q ∧ nth m q - nth pr q + nth po q ≤ 1000000)
    (h1 : ∀ p, p < P → nth c'.mark p = nth c.mark p - nth pr p + nth po p)
    (h2 : ∀ t, t < n.trans.length → (tranAt n.trans t).label ≠ 0 → nth c'.busy t = nth c.busy t - nth pr (P + seenTo n.trans t) + nth po (P + seenTo n.trans t))
    (h3 : ∀ t, t < n.trans.length → (tranAt n.trans t).label = 0 → nth c'.busy t = 0) (hlr : pr.length = P + S) (hlo : po.length = P + S) :
    ∃ m', fireL b m ((k + seenTo n.trans k + j : Nat) : Int) = (m', 0) ∧ Sim n P S c' m' := by
  have hbp : b.places = ((P + S : Nat) : Int) := by rw [h.net]
  have e1 : (tranAt b.trans (k + seenTo n.trans k + j)).pre = pr := by rw [ht]
  have e2 : (tranAt b.trans (k + seenTo n.trans k + j)).post = po := by rw [ht]
  refine ⟨_, fire_mk hlt (fits_mk h.ok_net (by rw [hs.len, hbp]) ((rightL_iff _).2 hm0)) ((coversL_iff _ _).2 fun q => by rw [e1]; exact hcov q) ((rightL_iff _).2 fun q => ?_), ?_⟩
  · rw [add_at, sub_at, e1, e2]; exact hr q
  · refine ⟨by rw [add_length, sub_length, hs.len, e1, e2, hlr, hlo]; omega, fun p hp => ?_, fun t htl hl => ?_, h3⟩
    · rw [add_at, sub_at, e1, e2, h1 p hp, hs.place p hp]
    · rw [add_at, sub_at, e1, e2, h2 t htl hl, hs.work t htl hl]

theorem Sim.bounds {n b : NetL} {P S : Nat} {c : CaseL} {m : List Int} (h : BusyOk n P S b) (hs : Sim n P S c m) (hr : rightC n c = true) : ∀ q, 0 ≤ nth m q ∧ nth m q ≤ 1000000 := by
  obtain ⟨hf, _, hb⟩ := rightC_iff.1 hr
  have hm := (rightL_iff _).1 (fits_net hf).2.2
  have hbb := (rightL_iff _).1 hb
  intro q
  by_cases h1 : q < P
  · rw [hs.place q h1]; exact hm q
  · by_cases h2 : q < P + S
    · obtain ⟨t, ht, hl, e⟩ := seen_onto n.trans n.trans.length (q - P) (by rw [← h.seen]; omega)
      have := hs.work t ht hl
      rw [e, show P + (q - P) = q by omega] at this
      rw [this]; exact hbb t
    · rw [nth_past _ _ (by rw [hs.len]; omega)]; omega

/-- One thing done, that is no giving back, is one firing. -/
theorem Sim.step {n b : NetL} {P S : Nat} {c x : CaseL} {m : List Int} {kind : Int} {k : Nat} (h : BusyOk n P S b) (hs : Sim n P S c m) (hd : DoOk n c kind k x) (h4 : kind ≠ 4) :
    ∃ m', fireL b m ((k + seenTo n.trans k + (if kind = 3 then 1 else 0) : Nat) : Int) = (m', 0) ∧ Sim n P S x m' := by
  obtain ⟨hf, hbl, hbr⟩ := rightC_iff.1 hd.right
  obtain ⟨hf2, _, hbr2⟩ := rightC_iff.1 hd.right2
  obtain ⟨hn, hml, hmr⟩ := fits_net hf
  have hm0 := hs.bounds h hd.right
  have hpl : (tranAt n.trans k).pre.length = P := by have := (tran_length hn hd.lt).1; have := h.places; omega
  have hql : (tranAt n.trans k).post.length = P := by have := (tran_length hn hd.lt).2; have := h.places; omega
  have hxm := (rightL_iff _).1 (fits_net hf2).2.2
  have hxb := (rightL_iff _).1 hbr2
  have hcov := (coversL_iff _ _).1 hd.covers
  have hmore := hd.more
  have hx := hd.out
  have hbt : b.trans = busyTo n.trans P S n.trans.length := by rw [h.net]
  have hk1 := hd.kind1
  have hk4 := hd.kind4
  have hdlt := hd.lt
  have prew := (rightL_iff _).1 (tran_right (net_tran hn hd.lt)).1
  have postw := (rightL_iff _).1 (tran_right (net_tran hn hd.lt)).2
  have hbusy : ∀ t, nth x.busy t = if t = k then nth c.busy k + moreC kind else nth c.busy t := fun t => by
    rw [hx]; exact nth_set' _ _ _ _ (by rw [hbl]; exact hd.lt)
  have hmark : ∀ p, nth x.mark p = nth c.mark p - nth (takeC (tranAt n.trans k) kind) p + nth (giveC (tranAt n.trans k) kind) p := fun p => by
    rw [hx]; show nth (addL (subL _ _) _) p = _; rw [add_at, sub_at]
  have wide : ∀ (l : List Int), l.length = P → ∀ q, nth (l ++ zerosL S) q = nth l q := fun l hl q => by
    rw [nth_app]; split
    · rfl
    · rw [zeros_at, nth_past _ _ (by omega)]
  have behind : ∀ q, nth (zerosL P ++ oneAt S (seenTo n.trans k)) q = if P ≤ q ∧ q < P + S ∧ q = P + seenTo n.trans k then 1 else 0 := fun q => by
    rw [nth_app, zeros_length]
    by_cases h1 : q < P
    · rw [if_pos h1, zeros_at, if_neg (by omega)]
    · rw [if_neg h1]
      by_cases h2 : q < P + S
      · rw [one_at (by omega)]
        by_cases h3 : q = P + seenTo n.trans k
        · rw [if_pos (by omega), if_pos (by omega)]
        · rw [if_neg (by omega), if_neg (by omega)]
      · rw [nth_past _ _ (by rw [one_length]; omega), if_neg (by omega)]
  have inj : ∀ t, t < n.trans.length → (tranAt n.trans t).label ≠ 0 → (tranAt n.trans k).label ≠ 0 → seenTo n.trans t = seenTo n.trans k → t = k := fun t ht hl hlk e => by
    rcases Nat.lt_trichotomy t k with h1 | h1 | h1
    · have := Proofs.Ytffaamljogbmlaa.seen_lt n.trans h1 hl; omega
    · exact h1
    · have := Proofs.Ytffaamljogbmlaa.seen_lt n.trans h1 hlk; omega
  by_cases hk : kind = 1
  · subst hk
    have hlab := hd.form.2 rfl
    have eT : busyT P S (seenTo n.trans k) (tranAt n.trans k) = [⟨0, (tranAt n.trans k).pre ++ zerosL S, (tranAt n.trans k).post ++ zerosL S⟩] := by unfold busyT; rw [if_pos hlab]
    obtain ⟨q1, q2⟩ := busyTo_at n.trans P S hd.lt 0 (by rw [eT]; simp)
    rw [eT] at q2
    simp only [takeC, giveC] at hcov hmark
    rw [if_pos (by simp)] at hcov
    have hmark : ∀ p, nth x.mark p = nth c.mark p - nth (tranAt n.trans k).pre p + nth (tranAt n.trans k).post p := fun p => by have := hmark p; simpa using this
    rw [if_neg (by omega)]
    refine h.fire (c := c) (c' := x) (pr := (tranAt n.trans k).pre ++ zerosL S) (po := (tranAt n.trans k).post ++ zerosL S) hs (by rw [hbt]; exact q1) (by rw [hbt, q2]; rfl) hm0 (fun q => ?_) (fun q => ?_) (fun p hp => ?_) (fun t ht hl => ?_) (fun t ht hl => ?_) (by simp [hpl, zeros_length]) (by simp [hql, zeros_length])
    · rw [wide _ hpl]
      by_cases hq : q < P
      · rw [hs.place q hq]; exact hcov q
      · rw [nth_past _ _ (by omega)]; exact (hm0 q).1
    · rw [wide _ hpl, wide _ hql]
      by_cases hq : q < P
      · rw [hs.place q hq, ← hmark q]; exact hxm q
      · rw [nth_past (tranAt n.trans k).pre _ (by omega), nth_past (tranAt n.trans k).post _ (by omega)]; have := hm0 q; omega
    · rw [wide _ hpl, wide _ hql]; exact hmark p
    · rw [wide _ hpl, wide _ hql, nth_past (tranAt n.trans k).pre _ (by omega), nth_past (tranAt n.trans k).post _ (by omega), hbusy t]
      rw [if_neg (fun e => by subst e; exact hl hlab)]; omega
    · rw [hbusy t]
      split
      · rename_i e; subst e; rw [hs.none t ht hl]; simp [moreC]
      · exact hs.none t ht hl
  · have hlab : (tranAt n.trans k).label ≠ 0 := fun e => hk (hd.form.1 e)
    have hsk := h.seen_lt hd.lt hlab
    have eT : busyT P S (seenTo n.trans k) (tranAt n.trans k) = [⟨0, (tranAt n.trans k).pre ++ zerosL S, zerosL P ++ oneAt S (seenTo n.trans k)⟩, ⟨(tranAt n.trans k).label, zerosL P ++ oneAt S (seenTo n.trans k), (tranAt n.trans k).post ++ zerosL S⟩] := by unfold busyT; rw [if_neg hlab]
    have hz : ∀ t, t < n.trans.length → (tranAt n.trans t).label = 0 → nth x.busy t = 0 := fun t ht hl => by
      rw [hbusy t, if_neg (fun e => by subst e; exact hlab hl)]; exact hs.none t ht hl
    have hwk := hs.work k hd.lt hlab
    by_cases hk2 : kind = 2
    · subst hk2
      obtain ⟨q1, q2⟩ := busyTo_at n.trans P S hd.lt 0 (by rw [eT]; simp)
      rw [eT] at q2
      simp only [takeC, giveC] at hcov hmark
      rw [if_pos (by simp)] at hcov
      have hmark : ∀ p, nth x.mark p = nth c.mark p - nth (tranAt n.trans k).pre p := fun p => by have := hmark p; simp [nth] at this ⊢; omega
      have hbk := hbusy k
      rw [if_pos rfl] at hbk
      simp only [moreC, if_pos] at hbk
      rw [if_neg (by omega)]
      refine h.fire (c := c) (c' := x) (pr := (tranAt n.trans k).pre ++ zerosL S) (po := zerosL P ++ oneAt S (seenTo n.trans k)) hs (by rw [hbt]; exact q1) (by rw [hbt, q2]; rfl) hm0 (fun q => ?_) (fun q => ?_) (fun p hp => ?_) (fun t ht hl => ?_) hz (by simp [hpl, zeros_length]) (by simp [zeros_length, one_length])
      · rw [wide _ hpl]
        by_cases hq : q < P
        · rw [hs.place q hq]; exact hcov q
        · rw [nth_past _ _ (by omega)]; exact (hm0 q).1
      · rw [wide _ hpl, behind]
        by_cases hq : q < P
        · rw [hs.place q hq, if_neg (by omega)]; have := hmark q; have := hxm q; omega
        · rw [nth_past (tranAt n.trans k).pre _ (by omega)]
          by_cases he : q = P + seenTo n.trans k
          · rw [if_pos (by omega), he, hwk]; have := hxb k; rw [hbk] at this; omega
          · rw [if_neg (by omega)]; have := hm0 q; omega
      · rw [wide _ hpl, behind, if_neg (by omega)]; have := hmark p; omega
      · rw [wide _ hpl, behind, nth_past (tranAt n.trans k).pre _ (by omega), hbusy t]
        have hst := h.seen_lt ht hl
        by_cases he : t = k
        · subst he; rw [if_pos rfl, if_pos (by omega)]; simp [moreC]
        · rw [if_neg he, if_neg (fun q => he (inj t ht hl hlab (by omega)))]; omega
    · have hk3 : kind = 3 := by omega
      subst hk3
      obtain ⟨q1, q2⟩ := busyTo_at n.trans P S hd.lt 1 (by rw [eT]; simp)
      rw [eT] at q2
      simp only [takeC, giveC] at hmark
      have hmark : ∀ p, nth x.mark p = nth c.mark p + nth (tranAt n.trans k).post p := fun p => by have := hmark p; simp [nth] at this ⊢; omega
      have hbk := hbusy k
      rw [if_pos rfl] at hbk
      have hm1 : moreC 3 = -1 := by simp [moreC]
      rw [hm1] at hbk hmore
      rw [if_pos rfl]
      refine h.fire (c := c) (c' := x) (pr := zerosL P ++ oneAt S (seenTo n.trans k)) (po := (tranAt n.trans k).post ++ zerosL S) hs (by rw [hbt]; exact q1) (by rw [hbt, q2]; rfl) hm0 (fun q => ?_) (fun q => ?_) (fun p hp => ?_) (fun t ht hl => ?_) hz (by simp [zeros_length, one_length]) (by simp [hql, zeros_length])
      · rw [behind]
        by_cases he : q = P + seenTo n.trans k
        · rw [if_pos (by omega), he, hwk]; omega
        · rw [if_neg (by omega)]; exact (hm0 q).1
      · rw [wide _ hql, behind]
        by_cases hq : q < P
        · rw [hs.place q hq, if_neg (by omega)]; have := hmark q; have := hxm q; omega
        · rw [nth_past (tranAt n.trans k).post _ (by omega)]
          by_cases he : q = P + seenTo n.trans k
          · rw [if_pos (by omega), he, hwk]; have := hxb k; rw [hbk] at this; omega
          · rw [if_neg (by omega)]; have := hm0 q; omega
      · rw [wide _ hql, behind, if_neg (by omega)]; have := hmark p; omega
      · rw [wide _ hql, behind, nth_past (tranAt n.trans k).post _ (by omega), hbusy t]
        have hst := h.seen_lt ht hl
        by_cases he : t = k
        · subst he; rw [if_pos rfl, if_pos (by omega)]; simp [moreC]; omega
        · rw [if_neg he, if_neg (fun q => he (inj t ht hl hlab (by omega)))]; omega

/-- At the beginning. -/
theorem Sim.start {n b : NetL} {P S : Nat} {i : Int} (h : BusyOk n P S b) (hi : 0 ≤ i ∧ i < n.places) : Sim n P S (beginC n i).1 (startL b.places i) := by
  rw [begin_ok h.ok hi]
  have hbp : b.places = ((P + S : Nat) : Int) := by rw [h.net]
  have h16 := h.p16
  have hP := h.places
  have hN : (min b.places 16).toNat = P + S := by rw [hbp]; omega
  have hN2 : (min n.places 16).toNat = P := by rw [hP]; omega
  refine ⟨by rw [start_length, hN], fun p hp => ?_, fun t ht hl => ?_, fun t ht hl => zeros_at _ _⟩
  · show _ = nth (startL n.places i) p
    rw [start_at _ _ _ (by omega), start_at _ _ _ (by omega)]
  · have := h.seen_lt ht hl
    show _ = nth (zerosL _) t
    rw [zeros_at, start_at _ _ _ (by omega), if_neg (by omega)]

end Go.Proofs.Ytffaamljogbmlaa

/- A list of things to do in a case, in memory; what is answered of it. -/
namespace Go.Proofs.Ytffaamljogbmlaa
open Go.RowKit
set_option linter.unusedVariables false
set_option maxRecDepth 4000

def opAt (l : List (Int × Int)) (k : Nat) : Int × Int := l.getD k (0, 0)
/-- A slice of pairs of numbers. -/
def OpsV (w : World) (v : Value) (l : List (Int × Int)) : Prop :=
  ∃ a len cap, v = .slice a len cap ∧ l.length = len ∧ len ≤ 8796093022208 ∧ Shape a len cap ∧
    ∀ j, j < l.length → ∃ b off, a = some ⟨b, off, none⟩ ∧ b < w.heap.size ∧ w.cell? ⟨b, off + j * 2, none⟩ = some (.int .i64 (opAt l j).1) ∧ w.cell? ⟨b, off + j * 2 + 1, none⟩ = some (.int .i64 (opAt l j).2)
theorem OpsV.below {w w' : World} {v : Value} {l : List (Int × Int)} (h : OpsV w v l) (hb : Below w.heap.size w w') : OpsV w' v l := by
  obtain ⟨a, len, cap, e, hl, hm, hs, hr⟩ := h
  refine ⟨a, len, cap, e, hl, hm, hs, fun j hj => ?_⟩
  obtain ⟨b, off, ha, hlt, h0, h1⟩ := hr j hj
  exact ⟨b, off, ha, Nat.lt_of_lt_of_le hlt hb.size, by rw [hb.cell (p := ⟨b, _, none⟩) hlt]; exact h0, by rw [hb.cell (p := ⟨b, _, none⟩) hlt]; exact h1⟩
theorem OpsV.at {w : World} {a : Option Addr} {len cap : Nat} {l : List (Int × Int)} (h : OpsV w (.slice a len cap) l) {k : Nat} (hk : k < len) :
    ∃ b off, a = some ⟨b, off, none⟩ ∧ b < w.heap.size ∧ w.cell? ⟨b, off + k * 2, none⟩ = some (.int .i64 (opAt l k).1) ∧ w.cell? ⟨b, off + k * 2 + 1, none⟩ = some (.int .i64 (opAt l k).2) := by
  obtain ⟨a', len', cap', e, hl, hm, hs, hr⟩ := h
  injection e with e1 e2 e3
  subst e1 e2 e3
  exact hr k (by omega)
theorem OpsV.slice {w : World} {v : Value} {l : List (Int × Int)} (h : OpsV w v l) : ∃ a cap, v = .slice a l.length cap ∧ l.length ≤ 8796093022208 ∧ Shape a l.length cap := by
  obtain ⟨a, len, cap, e, hl, hm, hs, hr⟩ := h
  subst hl
  exact ⟨a, cap, e, hm, hs⟩

/-- What a call answers that plays them. -/
def GivesP (w : World) (p : CaseL × List Int × Int) (e : Ending) (w' : World) : Prop := ∃ r l, e = .returned (.tuple #[r, l, .int .i64 p.2.2]) ∧ CaseV w' r p.1 ∧ Ints w' l p.2.1 ∧ Below w.heap.size w w'
/-- What a call answers that makes a net, or tells why not. -/
def GivesN (w : World) (p : NetL × Int) (e : Ending) (w' : World) : Prop := ∃ r, e = .returned (.tuple #[r, .int .i64 p.2]) ∧ Net w' r p.1 ∧ Below w.heap.size w w'

end Go.Proofs.Ytffaamljogbmlaa

/- Stops of ways, plainly: where a way goes on, and what is met on ways from a stop. -/
namespace Go.Proofs.Ytffaamljogbmlaa
set_option linter.unusedVariables false
set_option maxRecDepth 4000

/-- A transition (true), or a place. -/
abbrev Stop := Bool × Nat

/-- A stop of a net. -/
def FitS (n : NetL) (s : Stop) : Prop := if s.1 then s.2 < n.trans.length else (s.2 : Int) < n.places

/-- Those below k that q tells of. -/
def somes (b : Bool) (q : Nat → Bool) (k : Nat) : List Stop := ((List.range k).filter q).map fun j => (b, j)
theorem somes_yes (b : Bool) (q : Nat → Bool) (k : Nat) (h : q k = true) : somes b q (k + 1) = somes b q k ++ [(b, k)] := by
  simp [somes, List.range_succ, List.filter_append, h]
theorem somes_no (b : Bool) (q : Nat → Bool) (k : Nat) (h : q k = false) : somes b q (k + 1) = somes b q k := by
  simp [somes, List.range_succ, List.filter_append, h]
theorem somes_le (b : Bool) (q : Nat → Bool) (k : Nat) : (somes b q k).length ≤ k := by
  simp only [somes, List.length_map]
  exact Nat.le_trans (List.length_filter_le _ _) (by simp)
theorem mem_somes {b : Bool} {q : Nat → Bool} {k : Nat} {s : Stop} : s ∈ somes b q k ↔ s.1 = b ∧ s.2 < k ∧ q s.2 = true := by
  obtain ⟨c, j⟩ := s
  simp only [somes, List.mem_map, List.mem_filter, List.mem_range, Prod.mk.injEq]
  constructor
  · rintro ⟨x, ⟨h1, h2⟩, h3, h4⟩
    subst h4
    exact ⟨h3.symm, h1, h2⟩
  · rintro ⟨h1, h2, h3⟩
    exact ⟨j, ⟨h2, h3⟩, h1.symm, rfl⟩

def putsAt (n : NetL) (k p : Nat) : Bool := decide (0 < nth (tranAt n.trans k).post p)
def takesAt (n : NetL) (p k : Nat) : Bool := decide (0 < nth (tranAt n.trans k).pre p)

/-- Where a way can go on from a stop. -/
def behindL (n : NetL) (s : Stop) : List Stop :=
  if s.1 then somes false (putsAt n s.2) (tranAt n.trans s.2).post.length else somes true (takesAt n s.2) n.trans.length

theorem behind_fits {n : NetL} (hn : netOk n = true) {s t : Stop} (hs : FitS n s) (h : t ∈ behindL n s) : FitS n t := by
  obtain ⟨b, k⟩ := s
  cases b with
  | true =>
    have hk : k < n.trans.length := hs
    have h := mem_somes.1 (show t ∈ somes false _ _ from h)
    obtain ⟨c, j⟩ := t
    obtain ⟨rfl, h2, _⟩ := h
    have hl := (tran_length hn hk).2
    show (j : Int) < n.places
    have h2 : j < (tranAt n.trans k).post.length := h2
    omega
  | false =>
    have h := mem_somes.1 (show t ∈ somes true _ _ from h)
    obtain ⟨c, j⟩ := t
    obtain ⟨rfl, h2, _⟩ := h
    exact h2

theorem behind_le {n : NetL} (hn : netOk n = true) {s : Stop} (hs : FitS n s) : (behindL n s).length ≤ 24 := by
  obtain ⟨b, k⟩ := s
  obtain ⟨h0, h1, h2⟩ := head_of hn
  cases b with
  | true =>
    have hk : k < n.trans.length := hs
    have hl := (tran_length hn hk).2
    have := somes_le false (putsAt n k) (tranAt n.trans k).post.length
    show (somes false (putsAt n k) (tranAt n.trans k).post.length).length ≤ 24
    omega
  | false =>
    have := somes_le true (takesAt n k) n.trans.length
    show (somes true (takesAt n k) n.trans.length).length ≤ 24
    omega

/-- What is on ways from a stop. -/
def OnWay (n : NetL) (s t : Stop) : Prop := ∀ Q : Stop → Prop, Q s → (∀ a b, Q a → b ∈ behindL n a → Q b) → Q t
theorem OnWay.here (n : NetL) (s : Stop) : OnWay n s s := fun Q h _ => h
theorem OnWay.step {n : NetL} {s a b : Stop} (h : OnWay n s a) (hb : b ∈ behindL n a) : OnWay n s b := fun Q q1 q2 => q2 a b (h Q q1 q2) hb
theorem OnWay.first {n : NetL} {s a b : Stop} (hb : a ∈ behindL n s) (h : OnWay n a b) : OnWay n s b := h (fun x => OnWay n s x) ((OnWay.here n s).step hb) fun _ _ q e => q.step e
theorem OnWay.fits {n : NetL} (hn : netOk n = true) {s t : Stop} (hs : FitS n s) (h : OnWay n s t) : FitS n t := h (FitS n) hs fun _ _ q e => behind_fits hn q e

/-- What has been met has become more: what is new is on ways from stops of S, and all behind it has been met. -/
structure Went (n : NetL) (S : Stop → Prop) (vs vs' : List Stop) : Prop where
  sub : ∀ x ∈ vs, x ∈ vs'
  new : ∀ x ∈ vs', x ∈ vs ∨ S x
  shut : ∀ x ∈ vs', x ∉ vs → ∀ y ∈ behindL n x, y ∈ vs'

theorem Went.refl (n : NetL) (S : Stop → Prop) (vs : List Stop) : Went n S vs vs := ⟨fun _ h => h, fun _ h => .inl h, fun x h k => absurd h k⟩

theorem Went.trans {n : NetL} {S T : Stop → Prop} {vs us ws : List Stop} (h : Went n S vs us) (g : Went n T us ws) (hT : ∀ x, T x → S x) : Went n S vs ws where
  sub := fun x hx => g.sub x (h.sub x hx)
  new := fun x hx => by
    rcases g.new x hx with k | k
    · exact h.new x k
    · exact .inr (hT x k)
  shut := fun x hx hn y hy => by
    by_cases k : x ∈ us
    · exact g.sub y (h.shut x k hn y hy)
    · exact g.shut x hx k y hy

/-- One stop, and what is behind it. -/
theorem Went.stop {n : NetL} {s : Stop} {vs us : List Stop} (h : Went n (OnWay n s) (vs ++ [s]) us) (hall : ∀ y ∈ behindL n s, y ∈ us) : Went n (OnWay n s) vs us where
  sub := fun x hx => h.sub x (by simp [hx])
  new := fun x hx => by
    rcases h.new x hx with k | k
    · rcases List.mem_append.1 k with k | k
      · exact .inl k
      · have : x = s := by simpa using k
        subst this
        exact .inr (OnWay.here _ _)
    · exact .inr k
  shut := fun x hx hn y hy => by
    by_cases e : x = s
    · subst e; exact hall y hy
    · exact h.shut x hx (by simp [hn, e]) y hy

/-- From nothing: all that is on ways from a stop. -/
theorem Went.all {n : NetL} {s : Stop} {us : List Stop} (h : Went n (OnWay n s) [] us) (hs : s ∈ us) (x : Stop) : x ∈ us ↔ OnWay n s x := by
  constructor
  · intro hx
    rcases h.new x hx with k | k
    · cases k
    · exact k
  · exact fun hx => hx (fun y => y ∈ us) hs fun a b ha hb => h.shut a ha (by simp) b hb

/-- All stops of a net. -/
def allS (n : NetL) : List Stop := ((List.range n.places.toNat).map fun j => (false, j)) ++ (List.range n.trans.length).map fun j => (true, j)
theorem mem_allS {n : NetL} {s : Stop} : s ∈ allS n ↔ FitS n s := by
  obtain ⟨b, k⟩ := s
  cases b <;> simp [allS, FitS]
theorem allS_length {n : NetL} (h : 0 ≤ n.places) : ((allS n).length : Int) = n.places + n.trans.length := by
  simp only [allS, List.length_append, List.length_map, List.length_range]
  omega

theorem nodup_le : ∀ {l1 l2 : List Stop}, l1.Nodup → (∀ x ∈ l1, x ∈ l2) → l1.length ≤ l2.length := by
  intro l1
  induction l1 with
  | nil => intro l2 _ _; simp
  | cons a r ih =>
    intro l2 hn hs
    obtain ⟨h1, h2⟩ := List.nodup_cons.1 hn
    have ha : a ∈ l2 := hs a (by simp)
    have := ih (l2 := l2.erase a) h2 fun x hx => by
      have hne : x ≠ a := fun e => h1 (e ▸ hx)
      exact (List.mem_erase_of_ne hne).2 (hs x (by simp [hx]))
    rw [List.length_erase_of_mem ha] at this
    have := List.length_pos_of_mem ha
    simp only [List.length_cons]
    omega

theorem nodup_full {l1 l2 : List Stop} (hn : l1.Nodup) (hs : ∀ x ∈ l1, x ∈ l2) (hl : l1.length = l2.length) : ∀ x ∈ l2, x ∈ l1 := by
  intro x hx
  apply Classical.byContradiction
  intro hno
  have := nodup_le (l1 := x :: l1) (l2 := l2) (List.nodup_cons.2 ⟨hno, hn⟩) fun y hy => by
    rcases List.mem_cons.1 hy with rfl | hy
    · exact hx
    · exact hs y hy
  simp only [List.length_cons] at this
  omega

theorem allS_nodup (n : NetL) : (allS n).Nodup := by
  unfold allS
  have inj : ∀ b : Bool, ∀ l : List Nat, l.Nodup → (l.map fun j => (b, j)).Nodup := by
    intro b l h
    rw [List.nodup_iff_pairwise_ne] at h
    simp only [List.nodup_iff_pairwise_ne, List.pairwise_map, ne_eq, Prod.mk.injEq, true_and]
    exact h
  rw [List.nodup_append]
  refine ⟨inj _ _ List.nodup_range, inj _ _ List.nodup_range, ?_⟩
  intro a ha b hb e
  subst e
  simp only [List.mem_map] at ha hb
  obtain ⟨_, _, rfl⟩ := ha
  obtain ⟨_, _, e⟩ := hb
  injection e with e _
  cases e

/-- As many were met as there are: all were. -/
theorem met_all {n : NetL} (hn : netOk n = true) {s : Stop} (hs : FitS n s) {us : List Stop} (hd : us.Nodup) (hm : ∀ x, x ∈ us ↔ OnWay n s x) :
    ((us.length : Int) = n.places + n.trans.length) ↔ ∀ x, FitS n x → OnWay n s x := by
  have hl := allS_length (head_of hn).1
  constructor
  · intro e x hx
    refine (hm x).1 (nodup_full hd (fun y hy => mem_allS.2 ((hm y).1 hy |>.fits hn hs)) (by omega) x (mem_allS.2 hx))
  · intro h
    have h1 := nodup_le hd fun y hy => mem_allS.2 (((hm y).1 hy).fits hn hs)
    have h2 := nodup_le (allS_nodup n) fun y hy => (hm y).2 (h y (mem_allS.1 hy))
    omega

theorem nth_in {xs : List Int} {p : Nat} (h : nth xs p ≠ 0) : p < xs.length := by
  rcases Nat.lt_or_ge p xs.length with h1 | h1
  · exact h1
  · exact absurd (nth_past _ _ h1) h

/-- Ways by stops are ways by places. -/
theorem onWay_place {n : NetL} (hn : netOk n = true) {f p : Nat} : OnWay n (false, f) (false, p) ↔ WayP n f p := by
  constructor
  · intro h
    have := h (fun s => if s.1 then WayT n f s.2 ∧ s.2 < n.trans.length else WayP n f s.2) (WayP.here n f) fun a b ha hb => by
      obtain ⟨ba, ka⟩ := a
      obtain ⟨bb, kb⟩ := b
      cases ba with
      | true =>
        obtain ⟨e, h2, h3⟩ := mem_somes.1 (show (bb, kb) ∈ somes false _ _ from hb)
        simp only at e
        subst e
        obtain ⟨⟨q, hq, hq2⟩, hk⟩ := ha
        have h3 : 0 < nth (tranAt n.trans ka).post kb := of_decide_eq_true h3
        exact hq.step hk hq2 (Int.ne_of_gt h3)
      | false =>
        obtain ⟨e, h2, h3⟩ := mem_somes.1 (show (bb, kb) ∈ somes true _ _ from hb)
        simp only at e
        subst e
        have h3 : 0 < nth (tranAt n.trans kb).pre ka := of_decide_eq_true h3
        exact ⟨⟨ka, ha, Int.ne_of_gt h3⟩, h2⟩
    exact this
  · intro h
    refine h (fun p => OnWay n (false, f) (false, p)) (OnWay.here _ _) fun k a b hk ha h1 h2 => ?_
    have r := tran_right (net_tran hn hk)
    have p1 := (okTok_nth r.1 a).1
    have p2 := (okTok_nth r.2 b).1
    have e1 : 0 < nth (tranAt n.trans k).pre a := by omega
    have e2 : 0 < nth (tranAt n.trans k).post b := by omega
    exact (ha.step (b := (true, k)) (mem_somes.2 ⟨rfl, hk, decide_eq_true e1⟩)).step (mem_somes.2 ⟨rfl, nth_in h2, decide_eq_true e2⟩)

theorem onWay_tran {n : NetL} (hn : netOk n = true) {f k : Nat} (hk : k < n.trans.length) : OnWay n (false, f) (true, k) ↔ WayT n f k := by
  constructor
  · intro h
    have := h (fun s => if s.1 then WayT n f s.2 ∧ s.2 < n.trans.length else OnWay n (false, f) (false, s.2)) (OnWay.here _ _) fun a b ha hb => by
      obtain ⟨ba, ka⟩ := a
      obtain ⟨bb, kb⟩ := b
      cases ba with
      | true =>
        obtain ⟨e, h2, h3⟩ := mem_somes.1 (show (bb, kb) ∈ somes false _ _ from hb)
        simp only at e
        subst e
        obtain ⟨⟨q, hq, hq2⟩, hk2⟩ := ha
        have h3 : 0 < nth (tranAt n.trans ka).post kb := of_decide_eq_true h3
        exact (onWay_place hn).2 (hq.step hk2 hq2 (Int.ne_of_gt h3))
      | false =>
        obtain ⟨e, h2, h3⟩ := mem_somes.1 (show (bb, kb) ∈ somes true _ _ from hb)
        simp only at e
        subst e
        have h3 : 0 < nth (tranAt n.trans kb).pre ka := of_decide_eq_true h3
        exact ⟨⟨ka, (onWay_place hn).1 ha, Int.ne_of_gt h3⟩, h2⟩
    exact this.1
  · rintro ⟨p, hp, h1⟩
    have r := tran_right (net_tran hn hk)
    have p1 := (okTok_nth r.1 p).1
    have e1 : 0 < nth (tranAt n.trans k).pre p := by omega
    exact ((onWay_place hn).2 hp).step (mem_somes.2 ⟨rfl, hk, decide_eq_true e1⟩)

theorem onWay_all {n : NetL} (hn : netOk n = true) {f : Nat} : (∀ x, FitS n x → OnWay n (false, f) x) ↔ (∀ p : Nat, (p : Int) < n.places → WayP n f p) ∧ ∀ k, k < n.trans.length → WayT n f k := by
  constructor
  · intro h
    exact ⟨fun p hp => (onWay_place hn).1 (h (false, p) hp), fun k hk => (onWay_tran hn hk).1 (h (true, k) hk)⟩
  · rintro ⟨h1, h2⟩ ⟨b, k⟩ hx
    cases b with
    | true => exact (onWay_tran hn hx).2 (h2 k hx)
    | false => exact (onWay_place hn).2 (h1 k hx)

end Go.Proofs.Ytffaamljogbmlaa

/- What is played in a case, without giving back, is a run of the net with a place for each work: plainly, step by step. -/
namespace Go.Proofs.Ytffaamljogbmlaa
set_option linter.unusedVariables false
set_option maxRecDepth 4000

theorem play_append (n : NetL) : ∀ (xs : List (Int × Int)) (c : CaseL) (ys : List (Int × Int)), playC n c (xs ++ ys) = ((playC n (playC n c xs).1 ys).1, (playC n c xs).2 ++ (playC n (playC n c xs).1 ys).2)
  | [], c, ys => rfl
  | x :: xs, c, ys => by
    have := play_append n xs (stepC n c x) ys
    show ((playC n (stepC n c x) (xs ++ ys)).1, _ :: (playC n (stepC n c x) (xs ++ ys)).2) = _
    rw [this]; rfl
/-- The case behind the first so many. -/
def caseAt (n : NetL) (c : CaseL) (os : List (Int × Int)) (k : Nat) : CaseL := (playC n c (os.take k)).1
theorem take_snoc {os : List (Int × Int)} {k : Nat} (h : k < os.length) : os.take (k + 1) = os.take k ++ [opAt os k] := by
  rw [List.take_add_one, List.getElem?_eq_getElem h, opAt, List.getD_eq_getElem?_getD, List.getElem?_eq_getElem h]; rfl
theorem caseAt_succ (n : NetL) (c : CaseL) {os : List (Int × Int)} {k : Nat} (h : k < os.length) : caseAt n c os (k + 1) = stepC n (caseAt n c os k) (opAt os k) := by
  unfold caseAt; rw [take_snoc h, play_snoc]
theorem caseAt_all (n : NetL) (c : CaseL) {os : List (Int × Int)} {k : Nat} (h : os.length ≤ k) : caseAt n c os k = (playC n c os).1 := by
  unfold caseAt; rw [List.take_of_length_le h]
theorem err_at (n : NetL) (c : CaseL) {os : List (Int × Int)} {k : Nat} (h : k < os.length) : nth (playC n c os).2 k = (doC n (caseAt n c os k) (opAt os k).1 (opAt os k).2).2 := by
  have e : os = os.take k ++ (opAt os k :: os.drop (k + 1)) := by
    have h1 := (List.take_append_drop k os).symm
    rw [List.drop_eq_getElem_cons h] at h1
    rw [opAt, List.getD_eq_getElem?_getD, List.getElem?_eq_getElem h]; exact h1
  have hl : (playC n c (os.take k)).2.length = k := by rw [play_length, List.length_take]; omega
  have : nth (playC n c (os.take k ++ (opAt os k :: os.drop (k + 1)))).2 k = (doC n (caseAt n c os k) (opAt os k).1 (opAt os k).2).2 := by
    rw [play_append]
    show nth ((playC n c (os.take k)).2 ++ _) k = _
    rw [nth_app, if_neg (by omega), hl, Nat.sub_self]
    rfl
  rw [← e] at this
  exact this

/-- Where a thing that is done stands in the wider net. -/
def posOf (n : NetL) (o : Int × Int) : Int := ((o.2.toNat + seenTo n.trans o.2.toNat + (if o.1 = 3 then 1 else 0) : Nat) : Int)
def seqTo (n : NetL) (os : List (Int × Int)) (es : List Int) : Nat → List Int
  | 0 => []
  | k + 1 => seqTo n os es k ++ (if nth es k = 0 then [posOf n (opAt os k)] else [])
theorem seqTo_le (n : NetL) (os : List (Int × Int)) (es : List Int) : ∀ k, (seqTo n os es k).length ≤ k
  | 0 => Nat.le_refl _
  | k + 1 => by
    have := seqTo_le n os es k
    simp only [seqTo, List.length_append]
    split <;> simp <;> omega
theorem seqTo_yes {n : NetL} {os : List (Int × Int)} {es : List Int} {k : Nat} (h : nth es k = 0) : seqTo n os es (k + 1) = seqTo n os es k ++ [posOf n (opAt os k)] := by simp [seqTo, h]
theorem seqTo_no {n : NetL} {os : List (Int × Int)} {es : List Int} {k : Nat} (h : nth es k ≠ 0) : seqTo n os es (k + 1) = seqTo n os es k := by simp [seqTo, h]

theorem run_one {b : NetL} {m x y : List Int} {s : List Int} {t : Int} (h : runL b m s = (x, 0)) (hf : fireL b x t = (y, 0)) : runL b m (s ++ [t]) = (y, 0) := by
  rw [run_append, h]
  show (if ((0 : Int) == 0) = true then runL b x [t] else _) = _
  rw [if_pos (by decide)]
  exact run_cons.2 ⟨y, hf, run_nil.2 ⟨fire_fits hf, rfl⟩⟩

theorem case_run {n b : NetL} {P S : Nat} {i : Int} {os : List (Int × Int)} (h : BusyOk n P S b) (hi : 0 ≤ i ∧ i < n.places) (hno : ∀ k, k < os.length → (opAt os k).1 ≠ 4) :
    ∀ k, k ≤ os.length → ∃ m, runL b (startL b.places i) (seqTo n os (playC n (beginC n i).1 os).2 k) = (m, 0) ∧ Sim n P S (caseAt n (beginC n i).1 os k) m
  | 0, _ => by
    have hs := Sim.start h hi
    have hb := hs.bounds h (begin_right (by rw [begin_ok h.ok hi])).1
    have hbp : b.places = ((P + S : Nat) : Int) := by rw [h.net]
    exact ⟨_, run_nil.2 ⟨fits_mk h.ok_net (by rw [hs.len, hbp]) ((rightL_iff _).2 hb), rfl⟩, hs⟩
  | k + 1, hk => by
    obtain ⟨m, hr, hs⟩ := case_run h hi hno k (by omega)
    have he := err_at n (beginC n i).1 (os := os) (k := k) (by omega)
    by_cases h0 : nth (playC n (beginC n i).1 os).2 k = 0
    · rw [h0] at he
      obtain ⟨t, ht, hd⟩ := do_ok.1 (show doC n (caseAt n (beginC n i).1 os k) (opAt os k).1 (opAt os k).2 = ((doC n (caseAt n (beginC n i).1 os k) (opAt os k).1 (opAt os k).2).1, 0) from Prod.ext rfl he.symm)
      obtain ⟨m', hf, hs'⟩ := hs.step h hd (hno k (by omega))
      refine ⟨m', ?_, ?_⟩
      · rw [seqTo_yes h0]
        refine run_one hr ?_
        unfold posOf
        rw [ht, Int.toNat_natCast]
        exact hf
      · rw [caseAt_succ n _ (by omega)]
        unfold stepC
        rw [if_pos he.symm]
        exact hs'
    · refine ⟨m, by rw [seqTo_no h0]; exact hr, ?_⟩
      rw [caseAt_succ n _ (by omega)]
      unfold stepC
      rw [if_neg (by rw [← he]; exact h0)]
      exact hs

theorem done_in {n : NetL} {i : Int} {os : List (Int × Int)} {k : Nat} (hk : k < os.length) (h0 : nth (playC n (beginC n i).1 os).2 k = 0) : ∃ t : Nat, (opAt os k).2 = t ∧ t < n.trans.length ∧ 1 ≤ (opAt os k).1 ∧ (opAt os k).1 ≤ 4 := by
  have he := err_at n (beginC n i).1 hk
  rw [h0] at he
  obtain ⟨t, ht, hd⟩ := do_ok.1 (show doC n (caseAt n (beginC n i).1 os k) (opAt os k).1 (opAt os k).2 = ((doC n (caseAt n (beginC n i).1 os k) (opAt os k).1 (opAt os k).2).1, 0) from Prod.ext rfl he.symm)
  exact ⟨t, ht, hd.lt, hd.kind1, hd.kind4⟩

/-- Where each transition stands in the wider net; its place. -/
def atL (ts : List TranL) (k : Nat) : List Int := (List.range k).map fun t => ((t + seenTo ts t : Nat) : Int)
def placeL (ts : List TranL) (P k : Nat) : List Int := (List.range k).map fun t => ((P + seenTo ts t : Nat) : Int)
theorem atL_succ (ts : List TranL) (k : Nat) : atL ts (k + 1) = atL ts k ++ [((k + seenTo ts k : Nat) : Int)] := by simp [atL, List.range_succ]
theorem placeL_succ (ts : List TranL) (P k : Nat) : placeL ts P (k + 1) = placeL ts P k ++ [((P + seenTo ts k : Nat) : Int)] := by simp [placeL, List.range_succ]
theorem atL_length (ts : List TranL) (k : Nat) : (atL ts k).length = k := by simp [atL]
theorem placeL_length (ts : List TranL) (P k : Nat) : (placeL ts P k).length = k := by simp [placeL]
theorem atL_at (ts : List TranL) {t k : Nat} (h : t < k) : nth (atL ts k) t = ((t + seenTo ts t : Nat) : Int) := by
  unfold nth atL; rw [List.getD_eq_getElem?_getD, List.getElem?_map, List.getElem?_range h]; rfl
theorem placeL_at (ts : List TranL) (P : Nat) {t k : Nat} (h : t < k) : nth (placeL ts P k) t = ((P + seenTo ts t : Nat) : Int) := by
  unfold nth placeL; rw [List.getD_eq_getElem?_getD, List.getElem?_map, List.getElem?_range h]; rfl

end Go.Proofs.Ytffaamljogbmlaa
