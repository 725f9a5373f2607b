import Derived.Test.YtffaamljogbmlaaDoorGr03
import Derived.Test.YtffaamljogbmlaaDoorGr00
import Derived.Laws.ResultCell
/- Cases in memory; a box that a case is answered from. -/
namespace Go.Proofs.YtffaamljogbmlaaDoor
open Go.RowKit
set_option linter.unusedVariables false
set_option maxRecDepth 4000

theorem len_of_ints {w : World} {a : Option Addr} {l c : Nat} {xs : List Int} (h : Ints w (.slice a l c) xs) : xs.length = l := by
  obtain ⟨a', l', c', e, h, _⟩ := h
  injection e with _ e2 _
  rw [h, e2]

/-- A value that is this case. -/
def CaseV (w : World) (v : Value) (c : CaseL) : Prop := ∃ a l p a' l' p', v = .agg #[.slice a l p, .slice a' l' p'] ∧ Ints w (.slice a l p) c.mark ∧ Ints w (.slice a' l' p') c.busy
theorem CaseV.below {w w' : World} {v : Value} {c : CaseL} (h : CaseV w v c) (hb : Below w.heap.size w w') : CaseV w' v c := by
  obtain ⟨a, l, p, a', l', p', e, h1, h2⟩ := h
  exact ⟨a, l, p, a', l', p', e, h1.below hb, h2.below hb⟩
theorem CaseV.mk' {w : World} {mv bv : Value} {ms bs : List Int} (h1 : Ints w mv ms) (h2 : Ints w bv bs) : CaseV w (.agg #[mv, bv]) ⟨ms, bs⟩ := by
  obtain ⟨a, l, p, rfl, _⟩ := id h1
  obtain ⟨a', l', p', rfl, _⟩ := id h2
  exact ⟨a, l, p, a', l', p', rfl, h1, h2⟩
theorem CaseV.none (w : World) : CaseV w (.agg #[.slice none 0 0, .slice none 0 0]) noCase := CaseV.mk' (Ints.nil w) (Ints.nil w)

/-- What a call answers that makes a case, or tells why not. -/
def GivesC (w : World) (p : CaseL × Int) (e : Ending) (w' : World) : Prop := ∃ r, e = .returned (.tuple #[r, .int .i64 p.2]) ∧ CaseV w' r p.1 ∧ Below w.heap.size w w'
theorem givesC_of {w w' : World} {r : Value} {p : CaseL × Int} {c : CaseL} {d : Int} (hp : p = (c, d)) (hr : CaseV w' r c) (hb : Below w.heap.size w w') : GivesC w p (.returned (.tuple #[r, .int .i64 d])) w' := by
  subst hp; exact ⟨r, rfl, hr, hb⟩

/-- A cell that holds a slice is none that numbers are read from. -/
theorem Ints.putS {w : World} {v : Value} {xs : List Int} {p : Addr} {a : Option Addr} {l c : Nat} (h : Ints w v xs) (hp : w.cell? p = some (.slice a l c)) (u : Value) : Ints (w.setCell p u) v xs := by
  obtain ⟨a', len, cap, e, hl, hm, hs, hr⟩ := h
  refine ⟨a', len, cap, e, hl, hm, hs, fun j hj => ?_⟩
  obtain ⟨b, off, ha, hb, hc⟩ := hr j hj
  refine ⟨b, off, ha, by simpa [World.setCell] using hb, ?_⟩
  rw [World.cell?_setCell_other _ _ _ _ (by intro e; rw [← e, hp] at hc; cases hc)]
  exact hc

/-- A box of two slices that the call itself has made, at block R. -/
structure ResC (w : World) (R : Nat) (a : Option Addr) (l c : Nat) (a' : Option Addr) (l' c' : Nat) : Prop where
  cells : w.heap[R]? = some (.cells #[.slice a l c, .slice a' l' c'] 29 (0, 0))
theorem ResC.below {w w' : World} {R : Nat} {a a' : Option Addr} {l c l' c' : Nat} (h : ResC w R a l c a' l' c') (hb : Below w.heap.size w w') : ResC w' R a l c a' l' c' :=
  ⟨(hb.block R (Array.getElem?_eq_some_iff.1 h.cells).1).trans h.cells⟩
theorem ResC.facts {w : World} {R : Nat} {a a' : Option Addr} {l c l' c' : Nat} (h : ResC w R a l c a' l' c') :
    w.cell? ⟨R, 0, none⟩ = some (.slice a l c) ∧ w.cell? ⟨R, 1, none⟩ = some (.slice a' l' c') ∧ w.frozen? ⟨R, 0, none⟩ = false ∧ w.frozen? ⟨R, 1, none⟩ = false ∧ R < w.heap.size := by
  have e := h.cells
  exact ⟨by simp [World.cell?, e], by simp [World.cell?, e], by simp [World.frozen?, e], by simp [World.frozen?, e], (Array.getElem?_eq_some_iff.1 e).1⟩
theorem resC_new (w : World) : ResC (w.alloc (.cells #[.slice none 0 0, .slice none 0 0] 29)) w.heap.size none 0 0 none 0 0 := ⟨by
  show (w.heap.push _)[w.heap.size]? = _
  simp⟩

/-- It is filled. -/
theorem ResC.fill {w W w0 : World} {B R : Nat} {a a' : Option Addr} {l c l' c' : Nat} {mv bv : Value} {ms bs : List Int} (h : ResC w R a l c a' l' c') (hb : Below B w0 w) (hR : B ≤ R)
    (hW : (w.setCell ⟨R, 0, none⟩ mv).setCell ⟨R, 1, none⟩ bv = W) (hm : Ints w mv ms) (hv : Ints w bv bs) :
    W.cell? ⟨R, 0, none⟩ = some mv ∧ W.cell? ⟨R, 1, none⟩ = some bv ∧ CaseV W (.agg #[mv, bv]) ⟨ms, bs⟩ ∧ Below B w0 W := by
  obtain ⟨q1, q2, _, _, _⟩ := h.facts
  have e : (w.setCell ⟨R, 0, none⟩ mv).cell? ⟨R, 1, none⟩ = some (.slice a' l' c') := by rw [World.cell?_setCell_other _ _ _ _ (by simp)]; exact q2
  subst hW
  refine ⟨?_, ?_, CaseV.mk' ((hm.putS q1 _).putS e _) ((hv.putS q1 _).putS e _), (hb.setCell (p := ⟨R, 0, none⟩) hR _).setCell (p := ⟨R, 1, none⟩) hR _⟩
  · rw [World.cell?_setCell_other _ _ _ _ (by simp)]
    exact World.cell?_setCell_same _ _ _ q1
  · exact World.cell?_setCell_same _ _ _ e

theorem results_case {fn : Func} {p u : Tmp} {tmps : Array Value} {w : World} {b : Nat} {x y v : Value} (h : fn.results = #[.cell p 29, .tmp u]) (hp : tmps.getD p undef = .pointer (some ⟨b, 0, none⟩)) (hu : tmps.getD u undef = v) (h1 : w.cell? ⟨b, 0, none⟩ = some x) (h2 : w.cell? ⟨b, 1, none⟩ = some y) :
    (results fn tmps).run Tryd.prog w = .ok (.tuple #[.agg #[x, y], v]) w := by
  rw [results_cell_tmp h, hp, hu]
  simp [asAddr, go_sem, h1, h2]

end Go.Proofs.YtffaamljogbmlaaDoor

/- Plain words for the net with a place for each work; what is done in a case is a run of it. -/
namespace Go.Proofs.YtffaamljogbmlaaDoor
set_option linter.unusedVariables false
set_option maxRecDepth 4000

/-- How many of the first so many transitions have a label. -/
def seenTo (ts : List TranL) : Nat → Nat
  | 0 => 0
  | k + 1 => seenTo ts k + (if (tranAt ts k).label = 0 then 0 else 1)
theorem seen_le (ts : List TranL) : ∀ k, seenTo ts k ≤ k
  | 0 => Nat.le_refl _
  | k + 1 => by have := seen_le ts k; simp only [seenTo]; split <;> omega
theorem seen_mono (ts : List TranL) {a b : Nat} (h : a ≤ b) : seenTo ts a ≤ seenTo ts b := by
  induction b with
  | zero => obtain rfl : a = 0 := by omega
            exact Nat.le_refl _
  | succ b ih =>
    by_cases e : a = b + 1
    · subst e; exact Nat.le_refl _
    · have := ih (by omega); simp only [seenTo]; omega
theorem seen_lt (ts : List TranL) {a b : Nat} (h : a < b) (hl : (tranAt ts a).label ≠ 0) : seenTo ts a < seenTo ts b := by
  have h1 : seenTo ts (a + 1) = seenTo ts a + 1 := by simp [seenTo, hl]
  have h2 := seen_mono ts (show a + 1 ≤ b by omega)
  omega
theorem seen_onto (ts : List TranL) : ∀ (m k : Nat), k < seenTo ts m → ∃ t, t < m ∧ (tranAt ts t).label ≠ 0 ∧ seenTo ts t = k
  | 0, k, h => absurd h (Nat.not_lt_zero _)
  | m + 1, k, h => by
    by_cases hk : k < seenTo ts m
    · obtain ⟨t, h1, h2⟩ := seen_onto ts m k hk
      exact ⟨t, by omega, h2⟩
    · simp only [seenTo] at h
      by_cases hl : (tranAt ts m).label = 0
      · rw [if_pos hl] at h; omega
      · rw [if_neg hl] at h
        exact ⟨m, by omega, hl, by omega⟩

def oneAt (S k : Nat) : List Int := mapTo S fun j => if j = k then 1 else 0
theorem one_length (S k : Nat) : (oneAt S k).length = S := mapTo_length _ _
theorem one_at {S k j : Nat} (h : j < S) : nth (oneAt S k) j = if j = k then 1 else 0 := mapTo_nth _ _ _ h

/-- What becomes of a transition: itself, or two, with a place between. -/
def busyT (P S k : Nat) (t : TranL) : List TranL :=
  if t.label = 0 then [⟨0, t.pre ++ zerosL S, t.post ++ zerosL S⟩]
  else [⟨0, t.pre ++ zerosL S, zerosL P ++ oneAt S k⟩, ⟨t.label, zerosL P ++ oneAt S k, t.post ++ zerosL S⟩]
def busyTo (ts : List TranL) (P S : Nat) : Nat → List TranL
  | 0 => []
  | m + 1 => busyTo ts P S m ++ busyT P S (seenTo ts m) (tranAt ts m)
theorem busyTo_length (ts : List TranL) (P S : Nat) : ∀ m, (busyTo ts P S m).length = m + seenTo ts m
  | 0 => rfl
  | m + 1 => by
    simp only [busyTo, seenTo, List.length_append, busyTo_length ts P S m, busyT]
    split
    · simp; omega
    · simp; omega
/-- The net with a place for each work. -/
def busyN (n : NetL) : NetL × Int :=
  if netOk n then
    (if n.places + (seenTo n.trans n.trans.length : Int) > 16 ∨ n.trans.length + seenTo n.trans n.trans.length > 24 then (⟨0, []⟩, 4)
     else (⟨n.places + (seenTo n.trans n.trans.length : Int), busyTo n.trans n.places.toNat (seenTo n.trans n.trans.length) n.trans.length⟩, 0))
  else (⟨0, []⟩, 2)
theorem busy_bad {n : NetL} (h : netOk n = false) : busyN n = (⟨0, []⟩, 2) := by simp [busyN, h]
theorem busy_full {n : NetL} (h : netOk n = true) (hf : n.places + (seenTo n.trans n.trans.length : Int) > 16 ∨ n.trans.length + seenTo n.trans n.trans.length > 24) : busyN n = (⟨0, []⟩, 4) := by simp [busyN, h, hf]
theorem busy_ok {n : NetL} (h : netOk n = true) (hf : ¬ (n.places + (seenTo n.trans n.trans.length : Int) > 16 ∨ n.trans.length + seenTo n.trans n.trans.length > 24)) :
    busyN n = (⟨n.places + (seenTo n.trans n.trans.length : Int), busyTo n.trans n.places.toNat (seenTo n.trans n.trans.length) n.trans.length⟩, 0) := by unfold busyN; rw [if_pos h, if_neg hf]

theorem tran_at_append {xs ys : List TranL} {j : Nat} (h : xs.length ≤ j) : tranAt (xs ++ ys) j = tranAt ys (j - xs.length) := by
  unfold tranAt
  rw [List.getD_eq_getElem?_getD, List.getD_eq_getElem?_getD, List.getElem?_append_right h]
theorem tran_at_left {xs ys : List TranL} {j : Nat} (h : j < xs.length) : tranAt (xs ++ ys) j = tranAt xs j := by
  unfold tranAt
  rw [List.getD_eq_getElem?_getD, List.getD_eq_getElem?_getD, List.getElem?_append_left h]
/-- Where each one lies. -/
theorem busyTo_at (ts : List TranL) (P S : Nat) {t : Nat} : ∀ {m : Nat}, t < m → ∀ j, j < (busyT P S (seenTo ts t) (tranAt ts t)).length → t + seenTo ts t + j < (busyTo ts P S m).length ∧ tranAt (busyTo ts P S m) (t + seenTo ts t + j) = tranAt (busyT P S (seenTo ts t) (tranAt ts t)) j
  | 0, h => absurd h (Nat.not_lt_zero _)
  | m + 1, h => by
    intro j hj
    by_cases e : t = m
    · subst e
      have hl := busyTo_length ts P S t
      simp only [busyTo, List.length_append]
      refine ⟨by omega, ?_⟩
      rw [tran_at_append (by omega), show t + seenTo ts t + j - (busyTo ts P S t).length = j by omega]
    · obtain ⟨h1, h2⟩ := busyTo_at ts P S (show t < m by omega) j hj
      simp only [busyTo, List.length_append]
      exact ⟨by omega, by rw [tran_at_left h1]; exact h2⟩

theorem nth_app {xs ys : List Int} {j : Nat} : nth (xs ++ ys) j = if j < xs.length then nth xs j else nth ys (j - xs.length) := by
  unfold nth
  rw [List.getD_eq_getElem?_getD, List.getD_eq_getElem?_getD, List.getD_eq_getElem?_getD]
  split
  · rename_i h; rw [List.getElem?_append_left h]
  · rename_i h; rw [List.getElem?_append_right (by omega)]

/-- The case is the mark. -/
structure Sim (n : NetL) (P S : Nat) (c : CaseL) (m : List Int) : Prop where
  len : m.length = P + S
  place : ∀ p, p < P → nth m p = nth c.mark p
  work : ∀ t, t < n.trans.length → (tranAt n.trans t).label ≠ 0 → nth m (P + seenTo n.trans t) = nth c.busy t
  none : ∀ t, t < n.trans.length → (tranAt n.trans t).label = 0 → nth c.busy t = 0

/-- What both nets are. -/
structure BusyOk (n : NetL) (P S : Nat) (b : NetL) : Prop where
  ok : netOk n = true
  places : n.places = (P : Int)
  seen : S = seenTo n.trans n.trans.length
  p16 : P + S ≤ 16
  t24 : n.trans.length + S ≤ 24
  net : b = ⟨((P + S : Nat) : Int), busyTo n.trans P S n.trans.length⟩

theorem busy_some {n : NetL} (h : (busyN n).2 = 0) : ∃ P S, BusyOk n P S (busyN n).1 := by
  cases hn : netOk n with
  | false => rw [busy_bad hn] at h; cases h
  | true =>
    by_cases hf : n.places + (seenTo n.trans n.trans.length : Int) > 16 ∨ n.trans.length + seenTo n.trans n.trans.length > 24
    · rw [busy_full hn hf] at h; cases h
    · have hp : 0 ≤ n.places := by
        unfold netOk headOk at hn
        simp only [Bool.and_eq_true, decide_eq_true_eq] at hn
        omega
      exact ⟨n.places.toNat, seenTo n.trans n.trans.length, hn, by omega, rfl, by omega, by omega, by
        rw [busy_ok hn hf]
        show NetL.mk (n.places + (seenTo n.trans n.trans.length : Int)) _ = _
        rw [show n.places + (seenTo n.trans n.trans.length : Int) = ((n.places.toNat + seenTo n.trans n.trans.length : Nat) : Int) by omega]⟩

theorem BusyOk.ok_net {n b : NetL} {P S : Nat} (h : BusyOk n P S b) : netOk b = true := by
  have hw : ∀ k, k < n.trans.length → (tranAt n.trans k).pre.all weightOk = true ∧ (tranAt n.trans k).post.all weightOk = true ∧ 0 ≤ (tranAt n.trans k).label ∧ (tranAt n.trans k).label ≤ 26 ∧ (tranAt n.trans k).pre.length = P ∧ (tranAt n.trans k).post.length = P := fun k hk => by
    have h1 := net_tran h.ok hk
    have h2 := h.places
    simp only [tranOk, tranHead, Bool.and_eq_true, beq_iff_eq, decide_eq_true_eq, List.all_append] at h1
    exact ⟨h1.2.1, h1.2.2, h1.1.1.1.1, h1.1.1.1.2, by omega, by omega⟩
  have hz : ∀ k, (zerosL k).all weightOk = true := fun k => by
    rw [List.all_eq_true]
    intro x hx
    rw [show x = 0 from (List.mem_replicate.1 hx).2]; rfl
  have ho : ∀ k j, (oneAt k j).all weightOk = true := fun k j => by
    rw [List.all_eq_true]
    intro x hx
    unfold oneAt mapTo at hx
    obtain ⟨i, _, rfl⟩ := List.mem_map.1 hx
    split <;> rfl
  have hT : ∀ m, m ≤ n.trans.length → (busyTo n.trans P S m).all (tranOk ((P + S : Nat) : Int)) = true := by
    intro m
    induction m with
    | zero => intro _; rfl
    | succ m ih =>
      intro hm
      obtain ⟨w1, w2, l1, l2, e1, e2⟩ := hw m (by omega)
      simp only [busyTo, List.all_append, Bool.and_eq_true]
      refine ⟨ih (by omega), ?_⟩
      unfold busyT
      split
      · simp [tranOk, tranHead, List.all_append, w1, w2, hz, e1, e2, zeros_length]
      · simp [tranOk, tranHead, List.all_append, w1, w2, hz, ho, e1, e2, zeros_length, one_length, l1, l2]
  rw [h.net]
  unfold netOk headOk
  simp only [Bool.and_eq_true, decide_eq_true_eq]
  have := h.p16
  have := h.t24
  have hs := h.seen
  exact ⟨⟨⟨by omega, by omega⟩, by rw [busyTo_length]; omega⟩, hT _ (Nat.le_refl _)⟩

theorem BusyOk.seen_lt {n b : NetL} {P S : Nat} (h : BusyOk n P S b) {t : Nat} (ht : t < n.trans.length) (hl : (tranAt n.trans t).label ≠ 0) : seenTo n.trans t < S := by
  rw [h.seen]; exact Proofs.YtffaamljogbmlaaDoor.seen_lt n.trans ht hl

/-- What a firing of the wider net is. -/
theorem BusyOk.fire {n b : NetL} {P S : Nat} (h : BusyOk n P S b) {c c' : CaseL} {m : List Int} {k : Nat} {j : Nat} {pr po : List Int} (hs : Sim n P S c m) (hlt : k + seenTo n.trans k + j < b.trans.length)
    (ht : tranAt b.trans (k + seenTo n.trans k + j) = ⟨(tranAt b.trans (k + seenTo n.trans k + j)).label, pr, po⟩)
    (hm0 : ∀ q, 0 ≤ nth m q ∧ nth m q ≤ 1000000)
    (hcov : ∀ q, nth pr q ≤ nth m q) (hr : ∀ q, 0 ≤ nth m q - nth pr q + nth po q ∧ nth m q - nth pr q + nth po q ≤ 1000000)
    (h1 : ∀ p, p < P → nth c'.mark p = nth c.mark p - nth pr p + nth po p)
    (h2 : ∀ t, t < n.trans.length → (tranAt n.trans t).label ≠ 0 → nth c'.busy t = nth c.busy t - nth pr (P + seenTo n.trans t) + nth po (P + seenTo n.trans t))
    (h3 : ∀ t, t < n.trans.length → (tranAt n.trans t).label = 0 → nth c'.busy t = 0) (hlr : pr.length = P + S) (hlo : po.length = P + S) :
    ∃ m', fireL b m ((k + seenTo n.trans k + j : Nat) : Int) = (m', 0) ∧ Sim n P S c' m' := by
  have hbp : b.places = ((P + S : Nat) : Int) := by rw [h.net]
  have e1 : (tranAt b.trans (k + seenTo n.trans k + j)).pre = pr := by rw [ht]
  have e2 : (tranAt b.trans (k + seenTo n.trans k + j)).post = po := by rw [ht]
  refine ⟨_, fire_mk hlt (fits_mk h.ok_net (by rw [hs.len, hbp]) ((rightL_iff _).2 hm0)) ((coversL_iff _ _).2 fun q => by rw [e1]; exact hcov q) ((rightL_iff _).2 fun q => ?_), ?_⟩
  · rw [add_at, sub_at, e1, e2]; exact hr q
  · refine ⟨by rw [add_length, sub_length, hs.len, e1, e2, hlr, hlo]; omega, fun p hp => ?_, fun t htl hl => ?_, h3⟩
    · rw [add_at, sub_at, e1, e2, h1 p hp, hs.place p hp]
    · rw [add_at, sub_at, e1, e2, h2 t htl hl, hs.work t htl hl]

theorem Sim.bounds {n b : NetL} {P S : Nat} {c : CaseL} {m : List Int} (h : BusyOk n P S b) (hs : Sim n P S c m) (hr : rightC n c = true) : ∀ q, 0 ≤ nth m q ∧ nth m q ≤ 1000000 := by
  obtain ⟨hf, _, hb⟩ := rightC_iff.1 hr
  have hm := (rightL_iff _).1 (fits_net hf).2.2
  have hbb := (rightL_iff _).1 hb
  intro q
  by_cases h1 : q < P
  · rw [hs.place q h1]; exact hm q
  · by_cases h2 : q < P + S
    · obtain ⟨t, ht, hl, e⟩ := seen_onto n.trans n.trans.length (q - P) (by rw [← h.seen]; omega)
      have := hs.work t ht hl
      rw [e, show P + (q - P) = q by omega] at this
      rw [this]; exact hbb t
    · rw [nth_past _ _ (by rw [hs.len]; omega)]; omega

/-- One thing done, that is no giving back, is one firing. -/
theorem Sim.step {n b : NetL} {P S : Nat} {c x : CaseL} {m : List Int} {kind : Int} {k : Nat} (h : BusyOk n P S b) (hs : Sim n P S c m) (hd : DoOk n c kind k x) (h4 : kind ≠ 4) :
    ∃ m', fireL b m ((k + seenTo n.trans k + (if kind = 3 then 1 else 0) : Nat) : Int) = (m', 0) ∧ Sim n P S x m' := by
  obtain ⟨hf, hbl, hbr⟩ := rightC_iff.1 hd.right
  obtain ⟨hf2, _, hbr2⟩ := rightC_iff.1 hd.right2
  obtain ⟨hn, hml, hmr⟩ := fits_net hf
  have hm0 := hs.bounds h hd.right
  have hpl : (tranAt n.trans k).pre.length = P := by have := (tran_length hn hd.lt).1; have := h.places; omega
  have hql : (tranAt n.trans k).post.length = P := by have := (tran_length hn hd.lt).2; have := h.places; omega
  have hxm := (rightL_iff _).1 (fits_net hf2).2.2
  have hxb := (rightL_iff _).1 hbr2
  have hcov := (coversL_iff _ _).1 hd.covers
  have hmore := hd.more
  have hx := hd.out
  have hbt : b.trans = busyTo n.trans P S n.trans.length := by rw [h.net]
  have hk1 := hd.kind1
  have hk4 := hd.kind4
  have hdlt := hd.lt
  have prew := (rightL_iff _).1 (tran_right (net_tran hn hd.lt)).1
  have postw := (rightL_iff _).1 (tran_right (net_tran hn hd.lt)).2
  have hbusy : ∀ t, nth x.busy t = if t = k then nth c.busy k + moreC kind else nth c.busy t := fun t => by
    rw [hx]; exact nth_set' _ _ _ _ (by rw [hbl]; exact hd.lt)
  have hmark : ∀ p, nth x.mark p = nth c.mark p - nth (takeC (tranAt n.trans k) kind) p + nth (giveC (tranAt n.trans k) kind) p := fun p => by
    rw [hx]; show nth (addL (subL _ _) _) p = _; rw [add_at, sub_at]
  have wide : ∀ (l : List Int), l.length = P → ∀ q, nth (l ++ zerosL S) q = nth l q := fun l hl q => by
    rw [nth_app]; split
    · rfl
    · rw [zeros_at, nth_past _ _ (by omega)]
  have behind : ∀ q, nth (zerosL P ++ oneAt S (seenTo n.trans k)) q = if P ≤ q ∧ q < P + S ∧ q = P + seenTo n.trans k then 1 else 0 := fun q => by
    rw [nth_app, zeros_length]
    by_cases h1 : q < P
    · rw [if_pos h1, zeros_at, if_neg (by omega)]
    · rw [if_neg h1]
      by_cases h2 : q < P + S
      · rw [one_at (by omega)]
        by_cases h3 : q = P + seenTo n.trans k
        · rw [if_pos (by omega), if_pos (by omega)]
        · rw [if_neg (by omega), if_neg (by omega)]
      · rw [nth_past _ _ (by rw [one_length]; omega), if_neg (by omega)]
  have inj : ∀ t, t < n.trans.length → (tranAt n.trans t).label ≠ 0 → (tranAt n.trans k).label ≠ 0 → seenTo n.trans t = seenTo n.trans k → t = k := fun t ht hl hlk e => by
    rcases Nat.lt_trichotomy t k with h1 | h1 | h1
    · have := Proofs.YtffaamljogbmlaaDoor.seen_lt n.trans h1 hl; omega
    · exact h1
    · have := Proofs.YtffaamljogbmlaaDoor.seen_lt n.trans h1 hlk; omega
  by_cases hk : kind = 1
  · subst hk
    have hlab := hd.form.2 rfl
    have eT : busyT P S (seenTo n.trans k) (tranAt n.trans k) = [⟨0, (tranAt n.trans k).pre ++ zerosL S, (tranAt n.trans k).post ++ zerosL S⟩] := by unfold busyT; rw [if_pos hlab]
    obtain ⟨q1, q2⟩ := busyTo_at n.trans P S hd.lt 0 (by rw [eT]; simp)
    rw [eT] at q2
    simp only [takeC, giveC] at hcov hmark
    rw [if_pos (by simp)] at hcov
    have hmark : ∀ p, nth x.mark p = nth c.mark p - nth (tranAt n.trans k).pre p + nth (tranAt n.trans k).post p := fun p => by have := hmark p; simpa using this
    rw [if_neg (by omega)]
    refine h.fire (c := c) (c' := x) (pr := (tranAt n.trans k).pre ++ zerosL S) (po := (tranAt n.trans k).post ++ zerosL S) hs (by rw [hbt]; exact q1) (by rw [hbt, q2]; rfl) hm0 (fun q => ?_) (fun q => ?_) (fun p hp => ?_) (fun t ht hl => ?_) (fun t ht hl => ?_) (by simp [hpl, zeros_length]) (by simp [hql, zeros_length])
    · rw [wide _ hpl]
      by_cases hq : q < P
      · rw [hs.place q hq]; exact hcov q
      · rw [nth_past _ _ (by omega)]; exact (hm0 q).1
    · rw [wide _ hpl, wide _ hql]
      by_cases hq : q < P
      · rw [hs.place q hq, ← hmark q]; exact hxm q
      · rw [nth_past (tranAt n.trans k).pre _ (by omega), nth_past (tranAt n.trans k).post _ (by omega)]; have := hm0 q; omega
    · rw [wide _ hpl, wide _ hql]; exact hmark p
    · rw [wide _ hpl, wide _ hql, nth_past (tranAt n.trans k).pre _ (by omega), nth_past (tranAt n.trans k).post _ (by omega), hbusy t]
      rw [if_neg (fun e => by subst e; exact hl hlab)]; omega
    · rw [hbusy t]
      split
      · rename_i e; subst e; rw [hs.none t ht hl]; simp [moreC]
      · exact hs.none t ht hl
  · have hlab : (tranAt n.trans k).label ≠ 0 := fun e => hk (hd.form.1 e)
    have hsk := h.seen_lt hd.lt hlab
    have eT : busyT P S (seenTo n.trans k) (tranAt n.trans k) = [⟨0, (tranAt n.trans k).pre ++ zerosL S, zerosL P ++ oneAt S (seenTo n.trans k)⟩, ⟨(tranAt n.trans k).label, zerosL P ++ oneAt S (seenTo n.trans k), (tranAt n.trans k).post ++ zerosL S⟩] := by unfold busyT; rw [if_neg hlab]
    have hz : ∀ t, t < n.trans.length → (tranAt n.trans t).label = 0 → nth x.busy t = 0 := fun t ht hl => by
      rw [hbusy t, if_neg (fun e => by subst e; exact hlab hl)]; exact hs.none t ht hl
    have hwk := hs.work k hd.lt hlab
    by_cases hk2 : kind = 2
    · subst hk2
      obtain ⟨q1, q2⟩ := busyTo_at n.trans P S hd.lt 0 (by rw [eT]; simp)
      rw [eT] at q2
      simp only [takeC, giveC] at hcov hmark
      rw [if_pos (by simp)] at hcov
      have hmark : ∀ p, nth x.mark p = nth c.mark p - nth (tranAt n.trans k).pre p := fun p => by have := hmark p; simp [nth] at this ⊢; omega
      have hbk := hbusy k
      rw [if_pos rfl] at hbk
      simp only [moreC, if_pos] at hbk
      rw [if_neg (by omega)]
      refine h.fire (c := c) (c' := x) (pr := (tranAt n.trans k).pre ++ zerosL S) (po := zerosL P ++ oneAt S (seenTo n.trans k)) hs (by rw [hbt]; exact q1) (by rw [hbt, q2]; rfl) hm0 (fun q => ?_) (fun q => ?_) (fun p hp => ?_) (fun t ht hl => ?_) hz (by simp [hpl, zeros_length]) (by simp [zeros_length, one_length])
      · rw [wide _ hpl]
        by_cases hq : q < P
        · rw [hs.place q hq]; exact hcov q
        · rw [nth_past _ _ (by omega)]; exact (hm0 q).1
      · rw [wide _ hpl, behind]
        by_cases hq : q < P
        · rw [hs.place q hq, if_neg (by omega)]; have := hmark q; have := hxm q; omega
        · rw [nth_past (tranAt n.trans k).pre _ (by omega)]
          by_cases he : q = P + seenTo n.trans k
          · rw [if_pos (by omega), he, hwk]; have := hxb k; rw [hbk] at this; omega
          · rw [if_neg (by omega)]; have := hm0 q; omega
      · rw [wide _ hpl, behind, if_neg (by omega)]; have := hmark p; omega
      · rw [wide _ hpl, behind, nth_past (tranAt n.trans k).pre _ (by omega), hbusy t]
        have hst := h.seen_lt ht hl
        by_cases he : t = k
        · subst he; rw [if_pos rfl, if_pos (by omega)]; simp [moreC]
        · rw [if_neg he, if_neg (fun q => he (inj t ht hl hlab (by omega)))]; omega
    · have hk3 : kind = 3 := by omega
      subst hk3
      obtain ⟨q1, q2⟩ := busyTo_at n.trans P S hd.lt 1 (by rw [eT]; simp)
      rw [eT] at q2
      simp only [takeC, giveC] at hmark
      have hmark : ∀ p, nth x.mark p = nth c.mark p + nth (tranAt n.trans k).post p := fun p => by have := hmark p; simp [nth] at this ⊢; omega
      have hbk := hbusy k
      rw [if_pos rfl] at hbk
      have hm1 : moreC 3 = -1 := by simp [moreC]
      rw [hm1] at hbk hmore
      rw [if_pos rfl]
      refine h.fire (c := c) (c' := x) (pr := zerosL P ++ oneAt S (seenTo n.trans k)) (po := (tranAt n.trans k).post ++ zerosL S) hs (by rw [hbt]; exact q1) (by rw [hbt, q2]; rfl) hm0 (fun q => ?_) (fun q => ?_) (fun p hp => ?_) (fun t ht hl => ?_) hz (by simp [zeros_length, one_length]) (by simp [hql, zeros_length])
      · rw [behind]
        by_cases he : q = P + seenTo n.trans k
        · rw [if_pos (by omega), he, hwk]; omega
        · rw [if_neg (by omega)]; exact (hm0 q).1
      · rw [wide _ hql, behind]
        by_cases hq : q < P
        · rw [hs.place q hq, if_neg (by omega)]; have := hmark q; have := hxm q; omega
        · rw [nth_past (tranAt n.trans k).post _ (by omega)]
          by_cases he : q = P + seenTo n.trans k
          · rw [if_pos (by omega), he, hwk]; have := hxb k; rw [hbk] at this; omega
          · rw [if_neg (by omega)]; have := hm0 q; omega
      · rw [wide _ hql, behind, if_neg (by omega)]; have := hmark p; omega
      · rw [wide _ hql, behind, nth_past (tranAt n.trans k).post _ (by omega), hbusy t]
        have hst := h.seen_lt ht hl
        by_cases he : t = k
        · subst he; rw [if_pos rfl, if_pos (by omega)]; simp [moreC]; omega
        · rw [if_neg he, if_neg (fun q => he (inj t ht hl hlab (by omega)))]; omega

/-- At the beginning. -/
theorem Sim.start {n b : NetL} {P S : Nat} {i : Int} (h : BusyOk n P S b) (hi : 0 ≤ i ∧ i < n.places) : Sim n P S (beginC n i).1 (startL b.places i) := by
  rw [begin_ok h.ok hi]
  have hbp : b.places = ((P + S : Nat) : Int) := by rw [h.net]
  have h16 := h.p16
  have hP := h.places
  have hN : (min b.places 16).toNat = P + S := by rw [hbp]; omega
  have hN2 : (min n.places 16).toNat = P := by rw [hP]; omega
  refine ⟨by rw [start_length, hN], fun p hp => ?_, fun t ht hl => ?_, fun t ht hl => zeros_at _ _⟩
  · show _ = nth (startL n.places i) p
    rw [start_at _ _ _ (by omega), start_at _ _ _ (by omega)]
  · have := h.seen_lt ht hl
    show _ = nth (zerosL _) t
    rw [zeros_at, start_at _ _ _ (by omega), if_neg (by omega)]

end Go.Proofs.YtffaamljogbmlaaDoor

/- A list of things to do in a case, in memory; what is answered of it. -/
namespace Go.Proofs.YtffaamljogbmlaaDoor
open Go.RowKit
set_option linter.unusedVariables false
set_option maxRecDepth 4000

def opAt (l : List (Int × Int)) (k : Nat) : Int × Int := l.getD k (0, 0)
/-- A slice of pairs of numbers. -/
def OpsV (w : World) (v : Value) (l : List (Int × Int)) : Prop :=
  ∃ a len cap, v = .slice a len cap ∧ l.length = len ∧ len ≤ 8796093022208 ∧ Shape a len cap ∧
    ∀ j, j < l.length → ∃ b off, a = some ⟨b, off, none⟩ ∧ b < w.heap.size ∧ w.cell? ⟨b, off + j * 2, none⟩ = some (.int .i64 (opAt l j).1) ∧ w.cell? ⟨b, off + j * 2 + 1, none⟩ = some (.int .i64 (opAt l j).2)
theorem OpsV.below {w w' : World} {v : Value} {l : List (Int × Int)} (h : OpsV w v l) (hb : Below w.heap.size w w') : OpsV w' v l := by
  obtain ⟨a, len, cap, e, hl, hm, hs, hr⟩ := h
  refine ⟨a, len, cap, e, hl, hm, hs, fun j hj => ?_⟩
  obtain ⟨b, off, ha, hlt, h0, h1⟩ := hr j hj
  exact ⟨b, off, ha, Nat.lt_of_lt_of_le hlt hb.size, by rw [hb.cell (p := ⟨b, _, none⟩) hlt]; exact h0, by rw [hb.cell (p := ⟨b, _, none⟩) hlt]; exact h1⟩
theorem OpsV.at {w : World} {a : Option Addr} {len cap : Nat} {l : List (Int × Int)} (h : OpsV w (.slice a len cap) l) {k : Nat} (hk : k < len) :
    ∃ b off, a = some ⟨b, off, none⟩ ∧ b < w.heap.size ∧ w.cell? ⟨b, off + k * 2, none⟩ = some (.int .i64 (opAt l k).1) ∧ w.cell? ⟨b, off + k * 2 + 1, none⟩ = some (.int .i64 (opAt l k).2) := by
  obtain ⟨a', len', cap', e, hl, hm, hs, hr⟩ := h
  injection e with e1 e2 e3
  subst e1 e2 e3
  exact hr k (by omega)
theorem OpsV.slice {w : World} {v : Value} {l : List (Int × Int)} (h : OpsV w v l) : ∃ a cap, v = .slice a l.length cap ∧ l.length ≤ 8796093022208 ∧ Shape a l.length cap := by
  obtain ⟨a, len, cap, e, hl, hm, hs, hr⟩ := h
  subst hl
  exact ⟨a, cap, e, hm, hs⟩

/-- What a call answers that plays them. -/
def GivesP (w : World) (p : CaseL × List Int × Int) (e : Ending) (w' : World) : Prop := ∃ r l, e = .returned (.tuple #[r, l, .int .i64 p.2.2]) ∧ CaseV w' r p.1 ∧ Ints w' l p.2.1 ∧ Below w.heap.size w w'
/-- What a call answers that makes a net, or tells why not. -/
def GivesN (w : World) (p : NetL × Int) (e : Ending) (w' : World) : Prop := ∃ r, e = .returned (.tuple #[r, .int .i64 p.2]) ∧ Net w' r p.1 ∧ Below w.heap.size w w'

end Go.Proofs.YtffaamljogbmlaaDoor

/- Stops of ways, plainly: where a way goes on, and what is met on ways from a stop. -/
namespace Go.Proofs.YtffaamljogbmlaaDoor
set_option linter.unusedVariables false
set_option maxRecDepth 4000

/-- A transition (true), or a place. -/
abbrev Stop := Bool × Nat

/-- A stop of a net. -/
def FitS (n : NetL) (s : Stop) : Prop := if s.1 then s.2 < n.trans.length else (s.2 : Int) < n.places

/-- Those below k that q tells of. -/
def somes (b : Bool) (q : Nat → Bool) (k : Nat) : List Stop := ((List.range k).filter q).map fun j => (b, j)
theorem somes_yes (b : Bool) (q : Nat → Bool) (k : Nat) (h : q k = true) : somes b q (k + 1) = somes b q k ++ [(b, k)] := by
  simp [somes, List.range_succ, List.filter_append, h]
theorem somes_no (b : Bool) (q : Nat → Bool) (k : Nat) (h : q k = false) : somes b q (k + 1) = somes b q k := by
  simp [somes, List.range_succ, List.filter_append, h]
theorem somes_le (b : Bool) (q : Nat → Bool) (k : Nat) : (somes b q k).length ≤ k := by
  simp only [somes, List.length_map]
  exact Nat.le_trans (List.length_filter_le _ _) (by simp)
theorem mem_somes {b : Bool} {q : Nat → Bool} {k : Nat} {s : Stop} : s ∈ somes b q k ↔ s.1 = b ∧ s.2 < k ∧ q s.2 = true := by
  obtain ⟨c, j⟩ := s
  simp only [somes, List.mem_map, List.mem_filter, List.mem_range, Prod.mk.injEq]
  constructor
  · rintro ⟨x, ⟨h1, h2⟩, h3, h4⟩
    subst h4
    exact ⟨h3.symm, h1, h2⟩
  · rintro ⟨h1, h2, h3⟩
    exact ⟨j, ⟨h2, h3⟩, h1.symm, rfl⟩

def putsAt (n : NetL) (k p : Nat) : Bool := decide (0 < nth (tranAt n.trans k).post p)
def takesAt (n : NetL) (p k : Nat) : Bool := decide (0 < nth (tranAt n.trans k).pre p)

/-- Where a way can go on from a stop. -/
def behindL (n : NetL) (s : Stop) : List Stop :=
  if s.1 then somes false (putsAt n s.2) (tranAt n.trans s.2).post.length else somes true (takesAt n s.2) n.trans.length

theorem behind_fits {n : NetL} (hn : netOk n = true) {s t : Stop} (hs : FitS n s) (h : t ∈ behindL n s) : FitS n t := by
  obtain ⟨b, k⟩ := s
  cases b with
  | true =>
    have hk : k < n.trans.length := hs
    have h := mem_somes.1 (show t ∈ somes false _ _ from h)
    obtain ⟨c, j⟩ := t
    obtain ⟨rfl, h2, _⟩ := h
    have hl := (tran_length hn hk).2
    show (j : Int) < n.places
    have h2 : j < (tranAt n.trans k).post.length := h2
    omega
  | false =>
    have h := mem_somes.1 (show t ∈ somes true _ _ from h)
    obtain ⟨c, j⟩ := t
    obtain ⟨rfl, h2, _⟩ := h
    exact h2

theorem behind_le {n : NetL} (hn : netOk n = true) {s : Stop} (hs : FitS n s) : (behindL n s).length ≤ 24 := by
  obtain ⟨b, k⟩ := s
  obtain ⟨h0, h1, h2⟩ := head_of hn
  cases b with
  | true =>
    have hk : k < n.trans.length := hs
    have hl := (tran_length hn hk).2
    have := somes_le false (putsAt n k) (tranAt n.trans k).post.length
    show (somes false (putsAt n k) (tranAt n.trans k).post.length).length ≤ 24
    omega
  | false =>
    have := somes_le true (takesAt n k) n.trans.length
    show (somes true (takesAt n k) n.trans.length).length ≤ 24
    omega

/-- What is on ways from a stop. -/
def OnWay (n : NetL) (s t : Stop) : Prop := ∀ Q : Stop → Prop, Q s → (∀ a b, Q a → b ∈ behindL n a → Q b) → Q t
theorem OnWay.here (n : NetL) (s : Stop) : OnWay n s s := fun Q h _ => h
theorem OnWay.step {n : NetL} {s a b : Stop} (h : OnWay n s a) (hb : b ∈ behindL n a) : OnWay n s b := fun Q q1 q2 => q2 a b (h Q q1 q2) hb
theorem OnWay.first {n : NetL} {s a b : Stop} (hb : a ∈ behindL n s) (h : OnWay n a b) : OnWay n s b := h (fun x => OnWay n s x) ((OnWay.here n s).step hb) fun _ _ q e => q.step e
theorem OnWay.fits {n : NetL} (hn : netOk n = true) {s t : Stop} (hs : FitS n s) (h : OnWay n s t) : FitS n t := h (FitS n) hs fun _ _ q e => behind_fits hn q e

/-- What has been met has become more: what is new is on ways from stops of S, and all behind it has been met. -/
structure Went (n : NetL) (S : Stop → Prop) (vs vs' : List Stop) : Prop where
  sub : ∀ x ∈ vs, x ∈ vs'
  new : ∀ x ∈ vs', x ∈ vs ∨ S x
  shut : ∀ x ∈ vs', x ∉ vs → ∀ y ∈ behindL n x, y ∈ vs'

theorem Went.refl (n : NetL) (S : Stop → Prop) (vs : List Stop) : Went n S vs vs := ⟨fun _ h => h, fun _ h => .inl h, fun x h k => absurd h k⟩

theorem Went.trans {n : NetL} {S T : Stop → Prop} {vs us ws : List Stop} (h : Went n S vs us) (g : Went n T us ws) (hT : ∀ x, T x → S x) : Went n S vs ws where
  sub := fun x hx => g.sub x (h.sub x hx)
  new := fun x hx => by
    rcases g.new x hx with k | k
    · exact h.new x k
    · exact .inr (hT x k)
  shut := fun x hx hn y hy => by
    by_cases k : x ∈ us
    · exact g.sub y (h.shut x k hn y hy)
    · exact g.shut x hx k y hy

/-- One stop, and what is behind it. -/
theorem Went.stop {n : NetL} {s : Stop} {vs us : List Stop} (h : Went n (OnWay n s) (vs ++ [s]) us) (hall : ∀ y ∈ behindL n s, y ∈ us) : Went n (OnWay n s) vs us where
  sub := fun x hx => h.sub x (by simp [hx])
  new := fun x hx => by
    rcases h.new x hx with k | k
    · rcases List.mem_append.1 k with k | k
      · exact .inl k
      · have : x = s := by simpa using k
        subst this
        exact .inr (OnWay.here _ _)
    · exact .inr k
  shut := fun x hx hn y hy => by
    by_cases e : x = s
    · subst e; exact hall y hy
    · exact h.shut x hx (by simp [hn, e]) y hy

/-- From nothing: all that is on ways from a stop. -/
theorem Went.all {n : NetL} {s : Stop} {us : List Stop} (h : Went n (OnWay n s) [] us) (hs : s ∈ us) (x : Stop) : x ∈ us ↔ OnWay n s x := by
  constructor
  · intro hx
    rcases h.new x hx with k | k
    · cases k
    · exact k
  · exact fun hx => hx (fun y => y ∈ us) hs fun a b ha hb => h.shut a ha (by simp) b hb

/-- All stops of a net. -/
def allS (n : NetL) : List Stop := ((List.range n.places.toNat).map fun j => (false, j)) ++ (List.range n.trans.length).map fun j => (true, j)
theorem mem_allS {n : NetL} {s : Stop} : s ∈ allS n ↔ FitS n s := by
  obtain ⟨b, k⟩ := s
  cases b <;> simp [allS, FitS]
theorem allS_length {n : NetL} (h : 0 ≤ n.places) : ((allS n).length : Int) = n.places + n.trans.length := by
  simp only [allS, List.length_append, List.length_map, List.length_range]
  omega

theorem nodup_le : ∀ {l1 l2 : List Stop}, l1.Nodup → (∀ x ∈ l1, x ∈ l2) → l1.length ≤ l2.length := by
  intro l1
  induction l1 with
  | nil => intro l2 _ _; simp
  | cons a r ih =>
    intro l2 hn hs
    obtain ⟨h1, h2⟩ := List.nodup_cons.1 hn
    have ha : a ∈ l2 := hs a (by simp)
    have := ih (l2 := l2.erase a) h2 fun x hx => by
      have hne : x ≠ a := fun e => h1 (e ▸ hx)
      exact (List.mem_erase_of_ne hne).2 (hs x (by simp [hx]))
    rw [List.length_erase_of_mem ha] at this
    have := List.length_pos_of_mem ha
    simp only [List.length_cons]
    omega

theorem nodup_full {l1 l2 : List Stop} (hn : l1.Nodup) (hs : ∀ x ∈ l1, x ∈ l2) (hl : l1.length = l2.length) : ∀ x ∈ l2, x ∈ l1 := by
  intro x hx
  apply Classical.byContradiction
  intro hno
  have := nodup_le (l1 := x :: l1) (l2 := l2) (List.nodup_cons.2 ⟨hno, hn⟩) fun y hy => by
    rcases List.mem_cons.1 hy with rfl | hy
    · exact hx
    · exact hs y hy
  simp only [List.length_cons] at this
  omega

theorem allS_nodup (n : NetL) : (allS n).Nodup := by
  unfold allS
  have inj : ∀ b : Bool, ∀ l : List Nat, l.Nodup → (l.map fun j => (b, j)).Nodup := by
    intro b l h
    rw [List.nodup_iff_pairwise_ne] at h
    simp only [List.nodup_iff_pairwise_ne, List.pairwise_map, ne_eq, Prod.mk.injEq, true_and]
    exact h
  rw [List.nodup_append]
  refine ⟨inj _ _ List.nodup_range, inj _ _ List.nodup_range, ?_⟩
  intro a ha b hb e
  subst e
  simp only [List.mem_map] at ha hb
  obtain ⟨_, _, rfl⟩ := ha
  obtain ⟨_, _, e⟩ := hb
  injection e with e _
  cases e

/-- As many were met as there are: all were. -/
theorem met_all {n : NetL} (hn : netOk n = true) {s : Stop} (hs : FitS n s) {us : List Stop} (hd : us.Nodup) (hm : ∀ x, x ∈ us ↔ OnWay n s x) :
    ((us.length : Int) = n.places + n.trans.length) ↔ ∀ x, FitS n x → OnWay n s x := by
  have hl := allS_length (head_of hn).1
  constructor
  · intro e x hx
    refine (hm x).1 (nodup_full hd (fun y hy => mem_allS.2 ((hm y).1 hy |>.fits hn hs)) (by omega) x (mem_allS.2 hx))
  · intro h
    have h1 := nodup_le hd fun y hy => mem_allS.2 (((hm y).1 hy).fits hn hs)
    have h2 := nodup_le (allS_nodup n) fun y hy => (hm y).2 (h y (mem_allS.1 hy))
    omega

theorem nth_in {xs : List Int} {p : Nat} (h : nth xs p ≠ 0) : p < xs.length := by
  rcases Nat.lt_or_ge p xs.length with h1 | h1
  · exact h1
  · exact absurd (nth_past _ _ h1) h

/-- Ways by stops are ways by places. -/
theorem onWay_place {n : NetL} (hn : netOk n = true) {f p : Nat} : OnWay n (false, f) (false, p) ↔ WayP n f p := by
  constructor
  · intro h
    have := h (fun s => if s.1 then WayT n f s.2 ∧ s.2 < n.trans.length else WayP n f s.2) (WayP.here n f) fun a b ha hb => by
      obtain ⟨ba, ka⟩ := a
      obtain ⟨bb, kb⟩ := b
      cases ba with
      | true =>
        obtain ⟨e, h2, h3⟩ := mem_somes.1 (show (bb, kb) ∈ somes false _ _ from hb)
        simp only at e
        subst e
        obtain ⟨⟨q, hq, hq2⟩, hk⟩ := ha
        have h3 : 0 < nth (tranAt n.trans ka).post kb := of_decide_eq_true h3
        exact hq.step hk hq2 (Int.ne_of_gt h3)
      | false =>
        obtain ⟨e, h2, h3⟩ := mem_somes.1 (show (bb, kb) ∈ somes true _ _ from hb)
        simp only at e
        subst e
        have h3 : 0 < nth (tranAt n.trans kb).pre ka := of_decide_eq_true h3
        exact ⟨⟨ka, ha, Int.ne_of_gt h3⟩, h2⟩
    exact this
  · intro h
    refine h (fun p => OnWay n (false, f) (false, p)) (OnWay.here _ _) fun k a b hk ha h1 h2 => ?_
    have r := tran_right (net_tran hn hk)
    have p1 := (okTok_nth r.1 a).1
    have p2 := (okTok_nth r.2 b).1
    have e1 : 0 < nth (tranAt n.trans k).pre a := by omega
    have e2 : 0 < nth (tranAt n.trans k).post b := by omega
    exact (ha.step (b := (true, k)) (mem_somes.2 ⟨rfl, hk, decide_eq_true e1⟩)).step (mem_somes.2 ⟨rfl, nth_in h2, decide_eq_true e2⟩)

theorem onWay_tran {n : NetL} (hn : netOk n = true) {f k : Nat} (hk : k < n.trans.length) : OnWay n (false, f) (true, k) ↔ WayT n f k := by
  constructor
  · intro h
    have := h (fun s => if s.1 then WayT n f s.2 ∧ s.2 < n.trans.length else OnWay n (false, f) (false, s.2)) (OnWay.here _ _) fun a b ha hb => by
      obtain ⟨ba, ka⟩ := a
      obtain ⟨bb, kb⟩ := b
      cases ba with
      | true =>
        obtain ⟨e, h2, h3⟩ := mem_somes.1 (show (bb, kb) ∈ somes false _ _ from hb)
        simp only at e
        subst e
        obtain ⟨⟨q, hq, hq2⟩, hk2⟩ := ha
        have h3 : 0 < nth (tranAt n.trans ka).post kb := of_decide_eq_true h3
        exact (onWay_place hn).2 (hq.step hk2 hq2 (Int.ne_of_gt h3))
      | false =>
        obtain ⟨e, h2, h3⟩ := mem_somes.1 (show (bb, kb) ∈ somes true _ _ from hb)
        simp only at e
        subst e
        have h3 : 0 < nth (tranAt n.trans kb).pre ka := of_decide_eq_true h3
        exact ⟨⟨ka, (onWay_place hn).1 ha, Int.ne_of_gt h3⟩, h2⟩
    exact this.1
  · rintro ⟨p, hp, h1⟩
    have r := tran_right (net_tran hn hk)
    have p1 := (okTok_nth r.1 p).1
    have e1 : 0 < nth (tranAt n.trans k).pre p := by omega
    exact ((onWay_place hn).2 hp).step (mem_somes.2 ⟨rfl, hk, decide_eq_true e1⟩)

theorem onWay_all {n : NetL} (hn : netOk n = true) {f : Nat} : (∀ x, FitS n x → OnWay n (false, f) x) ↔ (∀ p : Nat, (p : Int) < n.places → WayP n f p) ∧ ∀ k, k < n.trans.length → WayT n f k := by
  constructor
  · intro h
    exact ⟨fun p hp => (onWay_place hn).1 (h (false, p) hp), fun k hk => (onWay_tran hn hk).1 (h (true, k) hk)⟩
  · rintro ⟨h1, h2⟩ ⟨b, k⟩ hx
    cases b with
    | true => exact (onWay_tran hn hx).2 (h2 k hx)
    | false => exact (onWay_place hn).2 (h1 k hx)

end Go.Proofs.YtffaamljogbmlaaDoor

/- What is played in a case, without giving back, is a run of the net with a place for each work: plainly, step by step. -/
namespace Go.Proofs.YtffaamljogbmlaaDoor
set_option linter.unusedVariables false
set_option maxRecDepth 4000

theorem play_append (n : NetL) : ∀ (xs : List (Int × Int)) (c : CaseL) (ys : List (Int × Int)), playC n c (xs ++ ys) = ((playC n (playC n c xs).1 ys).1, (playC n c xs).2 ++ (playC n (playC n c xs).1 ys).2)
  | [], c, ys => rfl
  | x :: xs, c, ys => by
    have := play_append n xs (stepC n c x) ys
    show ((playC n (stepC n c x) (xs ++ ys)).1, _ :: (playC n (stepC n c x) (xs ++ ys)).2) = _
    rw [this]; rfl
/-- The case behind the first so many. -/
def caseAt (n : NetL) (c : CaseL) (os : List (Int × Int)) (k : Nat) : CaseL := (playC n c (os.take k)).1
theorem take_snoc {os : List (Int × Int)} {k : Nat} (h : k < os.length) : os.take (k + 1) = os.take k ++ [opAt os k] := by
  rw [List.take_add_one, List.getElem?_eq_getElem h, opAt, List.getD_eq_getElem?_getD, List.getElem?_eq_getElem h]; rfl
theorem caseAt_succ (n : NetL) (c : CaseL) {os : List (Int × Int)} {k : Nat} (h : k < os.length) : caseAt n c os (k + 1) = stepC n (caseAt n c os k) (opAt os k) := by
  unfold caseAt; rw [take_snoc h, play_snoc]
theorem caseAt_all (n : NetL) (c : CaseL) {os : List (Int × Int)} {k : Nat} (h : os.length ≤ k) : caseAt n c os k = (playC n c os).1 := by
  unfold caseAt; rw [List.take_of_length_le h]
theorem err_at (n : NetL) (c : CaseL) {os : List (Int × Int)} {k : Nat} (h : k < os.length) : nth (playC n c os).2 k = (doC n (caseAt n c os k) (opAt os k).1 (opAt os k).2).2 := by
  have e : os = os.take k ++ (opAt os k :: os.drop (k + 1)) := by
    have h1 := (List.take_append_drop k os).symm
    rw [List.drop_eq_getElem_cons h] at h1
    rw [opAt, List.getD_eq_getElem?_getD, List.getElem?_eq_getElem h]; exact h1
  have hl : (playC n c (os.take k)).2.length = k := by rw [play_length, List.length_take]; omega
  have : nth (playC n c (os.take k ++ (opAt os k :: os.drop (k + 1)))).2 k = (doC n (caseAt n c os k) (opAt os k).1 (opAt os k).2).2 := by
    rw [play_append]
    show nth ((playC n c (os.take k)).2 ++ _) k = _
    rw [nth_app, if_neg (by omega), hl, Nat.sub_self]
    rfl
  rw [← e] at this
  exact this

/-- Where a thing that is done stands in the wider net. -/
def posOf (n : NetL) (o : Int × Int) : Int := ((o.2.toNat + seenTo n.trans o.2.toNat + (if o.1 = 3 then 1 else 0) : Nat) : Int)
def seqTo (n : NetL) (os : List (Int × Int)) (es : List Int) : Nat → List Int
  | 0 => []
  | k + 1 => seqTo n os es k ++ (if nth es k = 0 then [posOf n (opAt os k)] else [])
theorem seqTo_le (n : NetL) (os : List (Int × Int)) (es : List Int) : ∀ k, (seqTo n os es k).length ≤ k
  | 0 => Nat.le_refl _
  | k + 1 => by
    have := seqTo_le n os es k
    simp only [seqTo, List.length_append]
    split <;> simp <;> omega
theorem seqTo_yes {n : NetL} {os : List (Int × Int)} {es : List Int} {k : Nat} (h : nth es k = 0) : seqTo n os es (k + 1) = seqTo n os es k ++ [posOf n (opAt os k)] := by simp [seqTo, h]
theorem seqTo_no {n : NetL} {os : List (Int × Int)} {es : List Int} {k : Nat} (h : nth es k ≠ 0) : seqTo n os es (k + 1) = seqTo n os es k := by simp [seqTo, h]

theorem run_one {b : NetL} {m x y : List Int} {s : List Int} {t : Int} (h : runL b m s = (x, 0)) (hf : fireL b x t = (y, 0)) : runL b m (s ++ [t]) = (y, 0) := by
  rw [run_append, h]
  show (if ((0 : Int) == 0) = true then runL b x [t] else _) = _
  rw [if_pos (by decide)]
  exact run_cons.2 ⟨y, hf, run_nil.2 ⟨fire_fits hf, rfl⟩⟩

theorem case_run {n b : NetL} {P S : Nat} {i : Int} {os : List (Int × Int)} (h : BusyOk n P S b) (hi : 0 ≤ i ∧ i < n.places) (hno : ∀ k, k < os.length → (opAt os k).1 ≠ 4) :
    ∀ k, k ≤ os.length → ∃ m, runL b (startL b.places i) (seqTo n os (playC n (beginC n i).1 os).2 k) = (m, 0) ∧ Sim n P S (caseAt n (beginC n i).1 os k) m
  | 0, _ => by
    have hs := Sim.start h hi
    have hb := hs.bounds h (begin_right (by rw [begin_ok h.ok hi])).1
    have hbp : b.places = ((P + S : Nat) : Int) := by rw [h.net]
    exact ⟨_, run_nil.2 ⟨fits_mk h.ok_net (by rw [hs.len, hbp]) ((rightL_iff _).2 hb), rfl⟩, hs⟩
  | k + 1, hk => by
    obtain ⟨m, hr, hs⟩ := case_run h hi hno k (by omega)
    have he := err_at n (beginC n i).1 (os := os) (k := k) (by omega)
    by_cases h0 : nth (playC n (beginC n i).1 os).2 k = 0
    · rw [h0] at he
      obtain ⟨t, ht, hd⟩ := do_ok.1 (show doC n (caseAt n (beginC n i).1 os k) (opAt os k).1 (opAt os k).2 = ((doC n (caseAt n (beginC n i).1 os k) (opAt os k).1 (opAt os k).2).1, 0) from Prod.ext rfl he.symm)
      obtain ⟨m', hf, hs'⟩ := hs.step h hd (hno k (by omega))
      refine ⟨m', ?_, ?_⟩
      · rw [seqTo_yes h0]
        refine run_one hr ?_
        unfold posOf
        rw [ht, Int.toNat_natCast]
        exact hf
      · rw [caseAt_succ n _ (by omega)]
        unfold stepC
        rw [if_pos he.symm]
        exact hs'
    · refine ⟨m, by rw [seqTo_no h0]; exact hr, ?_⟩
      rw [caseAt_succ n _ (by omega)]
      unfold stepC
      rw [if_neg (by rw [← he]; exact h0)]
      exact hs

theorem done_in {n : NetL} {i : Int} {os : List (Int × Int)} {k : Nat} (hk : k < os.length) (h0 : nth (playC n (beginC n i).1 os).2 k = 0) : ∃ t : Nat, (opAt os k).2 = t ∧ t < n.trans.length ∧ 1 ≤ (opAt os k).1 ∧ (opAt os k).1 ≤ 4 := by
  have he := err_at n (beginC n i).1 hk
  rw [h0] at he
  obtain ⟨t, ht, hd⟩ := do_ok.1 (show doC n (caseAt n (beginC n i).1 os k) (opAt os k).1 (opAt os k).2 = ((doC n (caseAt n (beginC n i).1 os k) (opAt os k).1 (opAt os k).2).1, 0) from Prod.ext rfl he.symm)
  exact ⟨t, ht, hd.lt, hd.kind1, hd.kind4⟩

/-- Where each transition stands in the wider net; its place. -/
def atL (ts : List TranL) (k : Nat) : List Int := (List.range k).map fun t => ((t + seenTo ts t : Nat) : Int)
def placeL (ts : List TranL) (P k : Nat) : List Int := (List.range k).map fun t => ((P + seenTo ts t : Nat) : Int)
theorem atL_succ (ts : List TranL) (k : Nat) : atL ts (k + 1) = atL ts k ++ [((k + seenTo ts k : Nat) : Int)] := by simp [atL, List.range_succ]
theorem placeL_succ (ts : List TranL) (P k : Nat) : placeL ts P (k + 1) = placeL ts P k ++ [((P + seenTo ts k : Nat) : Int)] := by simp [placeL, List.range_succ]
theorem atL_length (ts : List TranL) (k : Nat) : (atL ts k).length = k := by simp [atL]
theorem placeL_length (ts : List TranL) (P k : Nat) : (placeL ts P k).length = k := by simp [placeL]
theorem atL_at (ts : List TranL) {t k : Nat} (h : t < k) : nth (atL ts k) t = ((t + seenTo ts t : Nat) : Int) := by
  unfold nth atL; rw [List.getD_eq_getElem?_getD, List.getElem?_map, List.getElem?_range h]; rfl
theorem placeL_at (ts : List TranL) (P : Nat) {t k : Nat} (h : t < k) : nth (placeL ts P k) t = ((P + seenTo ts t : Nat) : Int) := by
  unfold nth placeL; rw [List.getD_eq_getElem?_getD, List.getElem?_map, List.getElem?_range h]; rfl

end Go.Proofs.YtffaamljogbmlaaDoor

/- Where a search breaks off; how many can be different. -/
namespace Go.Proofs.YtffaamljogbmlaaDoor
set_option linter.unusedVariables false
set_option maxRecDepth 4000

theorem row_broke {n : NetL} {m : List Int} {most k : Nat} {s : SpaceL} (h : Found n m most k 0 s) (hk : k < s.marks.length) : ∀ (t : Nat), t ≤ n.trans.length → rowTo n most k s t = none →
    ∃ j s', j < n.trans.length ∧ Found n m most k j s' ∧ k < s'.marks.length ∧ tryT n most k s' j = none
  | 0, _, e => by simp [rowTo] at e
  | t + 1, ht, e => by
    rw [rowTo] at e
    cases e1 : rowTo n most k s t with
    | none => exact row_broke h hk t (by omega) e1
    | some s1 =>
      rw [e1] at e
      obtain ⟨g1, l1⟩ := rowTo_found h hk t (by omega) e1
      exact ⟨t, s1, by omega, g1, Nat.lt_of_lt_of_le hk l1.le, e⟩
theorem graph_broke {n : NetL} {m : List Int} {most : Nat} (hm : 1 ≤ most) (hf : fitsL n m = true) : ∀ (k : Nat), graphTo n m most k = none →
    ∃ f j s', j < n.trans.length ∧ Found n m most f j s' ∧ f < s'.marks.length ∧ tryT n most f s' j = none
  | 0, e => by simp [graphTo] at e
  | k + 1, e => by
    rw [graphTo] at e
    cases e1 : graphTo n m most k with
    | none => exact graph_broke hm hf k e1
    | some s1 =>
      rw [e1] at e
      simp only [Option.bind_some] at e
      split at e
      · rename_i hk
        obtain ⟨j, s', q1, q2, q3, q4⟩ := row_broke (graphTo_found hm hf k e1) hk _ (Nat.le_refl _) e
        exact ⟨k, j, s', q1, q2, q3, q4⟩
      · cases e

theorem nodup_sub {l1 : List (List Int)} : ∀ {l2 : List (List Int)}, l1.Nodup → (∀ x ∈ l1, x ∈ l2) → l1.length ≤ l2.length := by
  induction l1 with
  | nil => intro l2 _ _; simp
  | cons a l ih =>
    intro l2 hn hs
    rw [List.nodup_cons] at hn
    have ha := hs a (by simp)
    have := ih (l2 := l2.erase a) hn.2 fun x hx => (List.mem_erase_of_ne (fun (e : x = a) => hn.1 (e ▸ hx))).2 (hs x (by simp [hx]))
    rw [List.length_erase_of_mem ha] at this
    have := List.length_pos_of_mem ha
    simp; omega

theorem graphOk_300 {n : NetL} {m : List Int} (hf : fitsL n m = true) : graphOk n m 300 = true := by simp [graphOk, hf]

end Go.Proofs.YtffaamljogbmlaaDoor

/- Plain words for what a space holds in memory. -/
namespace Go.Proofs.YtffaamljogbmlaaDoor
open Go.RowKit
set_option linter.unusedVariables false
set_option maxRecDepth 4000

/-- A slice of arcs: three numbers each. -/
def Arcs (w : World) (v : Value) (l : List (Int × Int × Int)) : Prop :=
  ∃ a len cap, v = .slice a len cap ∧ l.length = len ∧ len ≤ 5864062014805 ∧ Shape a len cap ∧
    ∀ j (hj : j < l.length), ∃ b off, a = some ⟨b, off, none⟩ ∧ b < w.heap.size ∧ w.cell? ⟨b, off + j * 3, none⟩ = some (.int .i64 l[j].1) ∧
      w.cell? ⟨b, off + j * 3 + 1, none⟩ = some (.int .i64 l[j].2.1) ∧ w.cell? ⟨b, off + j * 3 + 2, none⟩ = some (.int .i64 l[j].2.2)

theorem Arcs.below {w w' : World} {v : Value} {l : List (Int × Int × Int)} (h : Arcs w v l) (hb : Below w.heap.size w w') : Arcs w' v l := by
  obtain ⟨a, len, cap, e, hl, hm, hs, hr⟩ := h
  refine ⟨a, len, cap, e, hl, hm, hs, fun j hj => ?_⟩
  obtain ⟨b, off, ha, hlt, h0, h1, h2⟩ := hr j hj
  exact ⟨b, off, ha, Nat.lt_of_lt_of_le hlt hb.size, by rw [hb.cell (p := ⟨b, _, none⟩) hlt]; exact h0, by rw [hb.cell (p := ⟨b, _, none⟩) hlt]; exact h1, by rw [hb.cell (p := ⟨b, _, none⟩) hlt]; exact h2⟩

theorem Arcs.at {w : World} {a : Option Addr} {len cap : Nat} {l : List (Int × Int × Int)} (h : Arcs w (.slice a len cap) l) {k : Nat} (hk : k < l.length) :
    ∃ b off, a = some ⟨b, off, none⟩ ∧ b < w.heap.size ∧ w.cell? ⟨b, off + k * 3, none⟩ = some (.int .i64 l[k].1) ∧
      w.cell? ⟨b, off + k * 3 + 1, none⟩ = some (.int .i64 l[k].2.1) ∧ w.cell? ⟨b, off + k * 3 + 2, none⟩ = some (.int .i64 l[k].2.2) := by
  obtain ⟨a', len', cap', e, hl, hm, hs, hr⟩ := h
  injection e with e1 e2 e3
  subst e1 e2 e3
  exact hr k hk
theorem Arcs.slice {w : World} {v : Value} {l : List (Int × Int × Int)} (h : Arcs w v l) : ∃ a cap, v = .slice a l.length cap ∧ l.length ≤ 5864062014805 := by
  obtain ⟨a, len, cap, e, hl, hm, hs, hr⟩ := h
  exact ⟨a, cap, by rw [e, hl], by omega⟩

theorem Lists.at {w : World} {a : Option Addr} {len cap : Nat} {ls : List (List Int)} (h : Lists w (.slice a len cap) ls) {k : Nat} (hk : k < len) :
    ∃ b off u, a = some ⟨b, off, none⟩ ∧ b < w.heap.size ∧ w.cell? ⟨b, off + k, none⟩ = some u ∧ Ints w u (markAt ls k) := by
  obtain ⟨a', len', cap', e, hl, hm, hs, hr⟩ := h
  injection e with e1 e2 e3
  subst e1 e2 e3
  exact hr k (by omega)
theorem Lists.slice {w : World} {v : Value} {ls : List (List Int)} (h : Lists w v ls) : ∃ a cap, v = .slice a ls.length cap ∧ ls.length ≤ 17592186044416 ∧ Shape a ls.length cap := by
  obtain ⟨a, len, cap, e, hl, hm, hs, hr⟩ := h
  subst hl
  exact ⟨a, cap, e, hm, hs⟩

def arcZ (a : ArcL) : Int × Int × Int := (a.frm, a.tran, a.dst)

/-- A value that is this space. -/
def Space (w : World) (v : Value) (s : SpaceL) : Prop := ∃ mv av, v = .agg #[mv, av] ∧ Lists w mv s.marks ∧ Arcs w av (s.arcs.map arcZ)

theorem Space.below {w w' : World} {v : Value} {s : SpaceL} (h : Space w v s) (hb : Below w.heap.size w w') : Space w' v s := by
  obtain ⟨mv, av, e, h1, h2⟩ := h
  exact ⟨mv, av, e, h1.below hb, h2.below hb⟩

/-- What a call answers that explores, or tells what is wrong. -/
def GivesS (w : World) (p : SpaceL × Int) (e : Ending) (w' : World) : Prop := ∃ r, e = .returned (.tuple #[r, .int .i64 p.2]) ∧ Space w' r p.1 ∧ Below w.heap.size w w'

theorem graphL_code (n : NetL) (m : List Int) (most : Int) : (graphL n m most).2 = 0 ∨ (graphL n m most).2 = 2 ∨ (graphL n m most).2 = 4 := by
  unfold graphL
  split
  · split
    · exact .inl rfl
    · exact .inr (.inr rfl)
  · exact .inr (.inl rfl)

end Go.Proofs.YtffaamljogbmlaaDoor

/- Plain words for what can always be done again. -/
namespace Go.Proofs.YtffaamljogbmlaaDoor
set_option linter.unusedVariables false
set_option maxRecDepth 4000

/-- Marks, and arcs between whatever numbers. -/
structure SpaceZ where
  marks : List (List Int)
  arcs : List (Int × Int × Int)

def rightS (s : SpaceZ) : Bool := s.arcs.all fun a => decide (0 ≤ a.1) && decide (a.1 < s.marks.length) && decide (0 ≤ a.2.2) && decide (a.2.2 < s.marks.length)
def Comes (s : SpaceZ) (k j : Int) : Prop := ∀ P : Int → Prop, P k → (∀ a : Int × Int × Int, P a.1 → a ∈ s.arcs → P a.2.2) → P j
theorem Comes.here {s : SpaceZ} (k : Int) : Comes s k k := fun _ h _ => h
theorem Comes.go {s : SpaceZ} {k : Int} {a : Int × Int × Int} (h : Comes s k a.1) (ha : a ∈ s.arcs) : Comes s k a.2.2 := fun P h0 h1 => h1 a (h P h0 h1) ha
theorem Comes.ind {s : SpaceZ} {k : Int} {motive : (j : Int) → Comes s k j → Prop} (here : motive k (Comes.here k)) (go : ∀ {a : Int × Int × Int} (h : Comes s k a.1) (ha : a ∈ s.arcs), motive a.1 h → motive a.2.2 (Comes.go h ha)) {j : Int} (h : Comes s k j) : motive j h := by
  obtain ⟨h', q⟩ := h (fun j => ∃ h : Comes s k j, motive j h) ⟨Comes.here k, here⟩ (fun a ⟨hx, qx⟩ ha => ⟨Comes.go hx ha, go hx ha qx⟩)
  exact q
def deadL (s : SpaceZ) (T : Int) : List Int := (rangeL (min T 24).toNat).filter fun t => s.arcs.all fun a => a.2.1 != t
def stuckL (s : SpaceZ) : List Int := (rangeL s.marks.length).filter fun k => s.arcs.all fun a => a.1 != k
def boundM (n : Int) (m : List Int) : Int := if rightL m then m.foldl max n else n
def boundL (s : SpaceZ) : Int := s.marks.foldl boundM 0
structure IsLive (s : SpaceZ) (T : Int) (xs : List Int) : Prop where
  up : xs.Pairwise (· < ·)
  mem : ∀ t, t ∈ xs ↔ rightS s = true ∧ 0 ≤ t ∧ t < min T 24 ∧ ∀ k : Int, 0 ≤ k → k < s.marks.length → ∃ a ∈ s.arcs, a.2.1 = t ∧ Comes s k a.1
structure IsHome (s : SpaceZ) (xs : List Int) : Prop where
  up : xs.Pairwise (· < ·)
  mem : ∀ k, k ∈ xs ↔ rightS s = true ∧ 0 ≤ k ∧ k < s.marks.length ∧ ∀ i : Int, 0 ≤ i → i < s.marks.length → Comes s i k

theorem rightS_iff {s : SpaceZ} : rightS s = true ↔ ∀ a ∈ s.arcs, 0 ≤ a.1 ∧ a.1 < s.marks.length ∧ 0 ≤ a.2.2 ∧ a.2.2 < s.marks.length := by
  unfold rightS
  simp only [List.all_eq_true, Bool.and_eq_true, decide_eq_true_eq, and_assoc]
theorem mem_dead {s : SpaceZ} {T t : Int} : t ∈ deadL s T ↔ 0 ≤ t ∧ t < min T 24 ∧ ∀ a ∈ s.arcs, a.2.1 ≠ t := by
  unfold deadL
  rw [List.mem_filter, mem_range]
  simp only [List.all_eq_true, bne_iff_ne]
  constructor
  · rintro ⟨h1, h2⟩; exact ⟨by omega, by omega, h2⟩
  · rintro ⟨h1, h2, h3⟩; exact ⟨by omega, h3⟩
theorem mem_stuck {s : SpaceZ} {k : Int} : k ∈ stuckL s ↔ 0 ≤ k ∧ k < s.marks.length ∧ ∀ a ∈ s.arcs, a.1 ≠ k := by
  unfold stuckL
  rw [List.mem_filter, mem_range]
  simp only [List.all_eq_true, bne_iff_ne, and_assoc]
theorem dead_up (s : SpaceZ) (T : Int) : (deadL s T).Pairwise (· < ·) := (range_sorted _).sublist List.filter_sublist
theorem stuck_up (s : SpaceZ) : (stuckL s).Pairwise (· < ·) := (range_sorted _).sublist List.filter_sublist

/-- Who is stuck goes nowhere. -/
theorem stuck_only {s : SpaceZ} {k j : Int} (h : k ∈ stuckL s) (hc : Comes s k j) : j = k := by
  induction hc using Comes.ind with
  | here => rfl
  | go h1 h2 ih => exact absurd ih ((mem_stuck.1 h).2.2 _ h2)

theorem up_one {xs : List Int} {k : Int} (hx : xs.Pairwise (· < ·)) (h : ∀ t, t ∈ xs ↔ t = k) : xs = [k] :=
  up_unique hx (List.pairwise_singleton _ _) fun t => by rw [h]; simp
theorem up_none {xs : List Int} (h : ∀ t, ¬ t ∈ xs) : xs = [] := List.eq_nil_iff_forall_not_mem.2 h

theorem stuck_live {s : SpaceZ} {T k : Int} {xs : List Int} (hk : k ∈ stuckL s) (h : IsLive s T xs) : xs = [] := by
  refine up_none fun t ht => ?_
  obtain ⟨_, _, _, hall⟩ := (h.mem t).1 ht
  obtain ⟨h1, h2, h3⟩ := mem_stuck.1 hk
  obtain ⟨a, ha, _, hc⟩ := hall k h1 h2
  exact h3 a ha (stuck_only hk hc)
theorem stuck_home {s : SpaceZ} {k : Int} {hs : List Int} (hk : k ∈ stuckL s) (h : IsHome s hs) (hh : k ∈ hs) : hs = [k] ∧ stuckL s = [k] := by
  obtain ⟨_, k1, k2, hall⟩ := (h.mem k).1 hh
  constructor
  · refine up_one h.up fun t => ⟨fun ht => ?_, fun e => by rw [e]; exact hh⟩
    obtain ⟨_, _, _, ht4⟩ := (h.mem t).1 ht
    exact stuck_only hk (ht4 k k1 k2)
  · refine up_one (stuck_up s) fun t => ⟨fun ht => ?_, fun e => by rw [e]; exact hk⟩
    obtain ⟨t1, t2, _⟩ := mem_stuck.1 ht
    exact (stuck_only ht (hall t t1 t2)).symm
theorem wrong_live {s : SpaceZ} {T : Int} {xs : List Int} (hr : rightS s = false) (h : IsLive s T xs) : xs = [] :=
  up_none fun t ht => by have := ((h.mem t).1 ht).1; rw [hr] at this; cases this
theorem wrong_home {s : SpaceZ} {xs : List Int} (hr : rightS s = false) (h : IsHome s xs) : xs = [] :=
  up_none fun t ht => by have := ((h.mem t).1 ht).1; rw [hr] at this; cases this

/-! ### spaces that are found -/
def toZ (s : SpaceL) : SpaceZ := ⟨s.marks, s.arcs.map arcZ⟩

theorem mem_arcZ {s : SpaceL} {a : Int × Int × Int} : a ∈ (toZ s).arcs ↔ ∃ b ∈ s.arcs, a = arcZ b := by
  unfold toZ
  simp only [List.mem_map]
  constructor
  · rintro ⟨b, h1, h2⟩; exact ⟨b, h1, h2.symm⟩
  · rintro ⟨b, h1, h2⟩; exact ⟨b, h1, h2.symm⟩

theorem Whole.sound {n : NetL} {m : List Int} {s : SpaceL} (h : Whole n m s) : ∀ a ∈ s.arcs, a.frm < s.marks.length ∧ a.dst < s.marks.length ∧ a.tran < n.trans.length ∧ fireL n (markAt s.marks a.frm) a.tran = (markAt s.marks a.dst, 0) := by
  obtain ⟨most, k, hF, hk⟩ := h
  intro a ha
  obtain ⟨h1, h2, h3, _, h5⟩ := hF.sound a ha
  exact ⟨h1, h2, h3, h5⟩
theorem Whole.right {n : NetL} {m : List Int} {s : SpaceL} (h : Whole n m s) : rightS (toZ s) = true := by
  refine rightS_iff.2 fun a ha => ?_
  obtain ⟨b, hb, rfl⟩ := mem_arcZ.1 ha
  obtain ⟨h1, h2, _⟩ := h.sound b hb
  simp only [arcZ, toZ]
  omega

/-- One comes by arcs just where a run leads. -/
theorem Whole.comes_run {n : NetL} {m : List Int} {s : SpaceL} (h : Whole n m s) {i : Nat} (hi : i < s.marks.length) {y : Int} (hc : Comes (toZ s) i y) :
    ∃ j : Nat, y = j ∧ j < s.marks.length ∧ ∃ seq, runL n (markAt s.marks i) seq = (markAt s.marks j, 0) := by
  have hfit : ∀ g, g < s.marks.length → fitsL n (markAt s.marks g) = true := by obtain ⟨most, k, hF, hk⟩ := h; exact fun g hg => hF.fits _ (markAt_mem hg)
  have key : ∀ {x y : Int}, Comes (toZ s) x y → x = (i : Int) → ∃ j : Nat, y = j ∧ j < s.marks.length ∧ ∃ seq, runL n (markAt s.marks i) seq = (markAt s.marks j, 0) := by
    intro x y hc
    induction hc using Comes.ind with
    | here => intro e; subst e; exact ⟨i, rfl, hi, [], run_nil.2 ⟨hfit i hi, rfl⟩⟩
    | go h1 h2 ih =>
      intro e
      obtain ⟨j, ej, hj, seq, hs⟩ := ih e
      obtain ⟨b, hb, rfl⟩ := mem_arcZ.1 h2
      obtain ⟨b1, b2, b3, b4⟩ := h.sound b hb
      simp only [arcZ] at ej ⊢
      obtain rfl : b.frm = j := by omega
      refine ⟨b.dst, rfl, b2, seq ++ [(b.tran : Int)], ?_⟩
      rw [run_append, hs]
      simp only [BEq.rfl, if_true]
      exact run_cons.2 ⟨_, b4, run_nil.2 ⟨hfit _ b2, rfl⟩⟩
  exact key hc rfl
theorem Whole.run_comes {n : NetL} {m : List Int} {s : SpaceL} (h : Whole n m s) (seq : List Int) : ∀ {i k : Nat} {z : List Int}, i < s.marks.length → Comes (toZ s) k i → runL n (markAt s.marks i) seq = (z, 0) →
    (∃ j : Nat, j < s.marks.length ∧ z = markAt s.marks j ∧ Comes (toZ s) k j) ∧ ∀ t ∈ seq, ∃ a ∈ s.arcs, (a.tran : Int) = t ∧ Comes (toZ s) k a.frm := by
  induction seq with
  | nil =>
    intro i k z hi hc hr
    obtain ⟨_, rfl⟩ := run_nil.1 hr
    exact ⟨⟨i, hi, rfl, hc⟩, by simp⟩
  | cons t ts ih =>
    intro i k z hi hc hr
    obtain ⟨y, h1, h2⟩ := run_cons.1 hr
    rcases h.fire hi t with h3 | ⟨j, g, rfl, hg, hgl, e⟩
    · rw [h1] at h3; simp at h3
    · rw [e] at h1
      injection h1 with h1 _
      subst h1
      have hc2 : Comes (toZ s) k g := Comes.go (a := arcZ ⟨i, j, g⟩) hc (mem_arcZ.2 ⟨_, hg, rfl⟩)
      obtain ⟨q1, q2⟩ := ih hgl hc2 h2
      refine ⟨q1, fun t' ht' => ?_⟩
      rcases List.mem_cons.1 ht' with q | q
      · exact ⟨_, hg, q.symm, hc⟩
      · exact q2 t' q

/-- From each of the marks all marks are found again, where there is room. -/
theorem Whole.again {n : NetL} {m : List Int} {s : SpaceL} (h : Whole n m s) (hl : s.marks.length < 300) {f : Nat} (hf : f < s.marks.length) : ∃ u, graphL n (markAt s.marks f) 300 = (u, 0) := by
  have hfit : fitsL n (markAt s.marks f) = true := by obtain ⟨most, k, hF, hk⟩ := h; exact hF.fits _ (markAt_mem hf)
  have hok := graphOk_300 hfit
  cases hg : graphTo n (markAt s.marks f) 300 300 with
  | some u => exact ⟨u, by rw [graphL, hok]; simp only [if_true, show (300 : Int).toNat = 300 from rfl]; rw [hg]⟩
  | none =>
    exfalso
    obtain ⟨f', j, s', hj, hF, hf', hn⟩ := graph_broke (by omega) hfit _ hg
    have hin : ∀ g, g < s'.marks.length → ∃ g2, g2 < s.marks.length ∧ markAt s'.marks g = markAt s.marks g2 := by
      intro g
      induction g using Nat.strongRecOn with
      | ind g ih =>
        intro hgl
        by_cases e : g = 0
        · subst e; exact ⟨f, hf, hF.first⟩
        · obtain ⟨a, ha, hlt⟩ := hF.par g (by omega) hgl
          obtain ⟨h1, h2⟩ := firstTo_mem ha
          obtain ⟨q1, q2, q3, q4, q5⟩ := hF.sound a h1
          obtain ⟨g2, hg2, e2⟩ := ih a.frm hlt q1
          rw [e2, h2] at q5
          rcases h.fire hg2 a.tran with r | ⟨_, g3, _, _, hg3, e3⟩
          · rw [q5] at r; simp at r
          · rw [q5] at e3; injection e3 with e3 _; exact ⟨g3, hg3, e3⟩
    have hlen : s'.marks.length ≤ s.marks.length := nodup_sub hF.nodup fun x hx => by
      obtain ⟨g, hgl, rfl⟩ := List.getElem_of_mem hx
      obtain ⟨g2, hg2, e2⟩ := hin g hgl
      have e3 : s'.marks[g] = markAt s'.marks g := by simp [markAt, List.getD_eq_getElem?_getD, List.getElem?_eq_getElem hgl]
      rw [e3, e2]
      exact markAt_mem hg2
    obtain ⟨g2, hg2, e2⟩ := hin f' hf'
    rcases h.fire hg2 j with r | ⟨_, g3, _, _, hg3, e3⟩
    · unfold tryT at hn
      rw [e2, r] at hn
      simp at hn
    · unfold tryT at hn
      rw [e2, e3] at hn
      simp only [show ((0 : Int) == 3) = false from rfl, Bool.false_eq_true, if_false, BEq.rfl, if_true] at hn
      split at hn
      · cases hn
      · rw [if_neg (by omega)] at hn
        cases hn

end Go.Proofs.YtffaamljogbmlaaDoor

/- Plain words for the words of nets: ways along arcs, and what is seen of them. -/
namespace Go.Proofs.YtffaamljogbmlaaDoor
set_option linter.unusedVariables false
set_option maxRecDepth 4000

/-- A way of so many arcs, and what is seen of it; lb tells what is seen of a transition, 0: nothing. -/
def WayN (A : List ArcL) (lb : Nat → Int) : Nat → Nat → List Int → Nat → Prop
  | 0, f, w, d => f = d ∧ w = []
  | k + 1, f, w, d => ∃ a ∈ A, a.frm = f ∧ ∃ u, WayN A lb k a.dst u d ∧ w = (if lb a.tran = 0 then u else lb a.tran :: u)
def Way (A : List ArcL) (lb : Nat → Int) (f : Nat) (w : List Int) (d : Nat) : Prop := ∃ k, WayN A lb k f w d

theorem WayN.cons {A : List ArcL} {lb : Nat → Int} {k d : Nat} {u : List Int} {a : ArcL} (ha : a ∈ A) (h : WayN A lb k a.dst u d) : WayN A lb (k + 1) a.frm (if lb a.tran = 0 then u else lb a.tran :: u) d := ⟨a, ha, rfl, u, h, rfl⟩
theorem WayN.append {A : List ArcL} {lb : Nat → Int} : ∀ {k j f m d : Nat} {u v : List Int}, WayN A lb k f u m → WayN A lb j m v d → WayN A lb (k + j) f (u ++ v) d := by
  intro k
  induction k with
  | zero => intro j f m d u v h1 h2; obtain ⟨rfl, rfl⟩ := h1; rw [Nat.zero_add]; exact h2
  | succ k ih =>
    intro j f m d u v h1 h2
    obtain ⟨a, ha, e, u', h, rfl⟩ := h1
    have h3 := ih h h2
    rw [show k + 1 + j = k + j + 1 by omega]
    refine ⟨a, ha, e, u' ++ v, h3, ?_⟩
    split <;> simp
theorem Way.here {A : List ArcL} {lb : Nat → Int} (f : Nat) : Way A lb f [] f := ⟨0, rfl, rfl⟩
theorem Way.append {A : List ArcL} {lb : Nat → Int} {f m d : Nat} {u v : List Int} (h1 : Way A lb f u m) (h2 : Way A lb m v d) : Way A lb f (u ++ v) d := by
  obtain ⟨k, h1⟩ := h1
  obtain ⟨j, h2⟩ := h2
  exact ⟨_, h1.append h2⟩
theorem Way.arc {A : List ArcL} {lb : Nat → Int} {a : ArcL} (ha : a ∈ A) (h : lb a.tran ≠ 0) : Way A lb a.frm [lb a.tran] a.dst := by
  have := WayN.cons (lb := lb) ha (k := 0) ⟨rfl, rfl⟩
  rw [if_neg h] at this
  exact ⟨_, this⟩
theorem Way.arc0 {A : List ArcL} {lb : Nat → Int} {a : ArcL} (ha : a ∈ A) (h : lb a.tran = 0) : Way A lb a.frm [] a.dst := by
  have := WayN.cons (lb := lb) ha (k := 0) ⟨rfl, rfl⟩
  rw [if_pos h] at this
  exact ⟨_, this⟩

/-- What is closed under arcs without letters has all that is come to without letters. -/
theorem Way.unseen {A : List ArcL} {lb : Nat → Int} {P : Nat → Prop} (hP : ∀ a ∈ A, lb a.tran = 0 → P a.frm → P a.dst) : ∀ {f d : Nat}, Way A lb f [] d → P f → P d := by
  rintro f d ⟨k, h⟩
  induction k generalizing f with
  | zero => intro hf; obtain ⟨rfl, _⟩ := h; exact hf
  | succ k ih =>
    intro hf
    obtain ⟨a, ha, e, u, h1, h2⟩ := h
    by_cases h0 : lb a.tran = 0
    · rw [if_pos h0] at h2
      subst h2
      exact ih h1 (hP a ha h0 (by rw [e]; exact hf))
    · rw [if_neg h0] at h2
      cases h2
theorem Way.unseenB {A : List ArcL} {lb : Nat → Int} {P : Nat → Prop} (hP : ∀ a ∈ A, lb a.tran = 0 → P a.dst → P a.frm) : ∀ {f d : Nat}, Way A lb f [] d → P d → P f := by
  rintro f d ⟨k, h⟩
  induction k generalizing f with
  | zero => intro hf; obtain ⟨rfl, _⟩ := h; exact hf
  | succ k ih =>
    intro hd
    obtain ⟨a, ha, e, u, h1, h2⟩ := h
    by_cases h0 : lb a.tran = 0
    · rw [if_pos h0] at h2
      subst h2
      rw [← e]
      exact hP a ha h0 (ih h1 hd)
    · rw [if_neg h0] at h2
      cases h2

/-- The first letter. -/
theorem Way.first {A : List ArcL} {lb : Nat → Int} {f d : Nat} {l : Int} {w : List Int} (h : Way A lb f (l :: w) d) : ∃ a ∈ A, Way A lb f [] a.frm ∧ lb a.tran = l ∧ l ≠ 0 ∧ Way A lb a.dst w d := by
  obtain ⟨k, h⟩ := h
  induction k generalizing f with
  | zero => obtain ⟨_, h⟩ := h; cases h
  | succ k ih =>
    obtain ⟨a, ha, rfl, u, h1, h2⟩ := h
    by_cases h0 : lb a.tran = 0
    · rw [if_pos h0] at h2
      subst h2
      obtain ⟨b, hb, q1, q2, q3, q4⟩ := ih h1
      exact ⟨b, hb, (Way.arc0 ha h0).append q1, q2, q3, q4⟩
    · rw [if_neg h0] at h2
      injection h2 with h2 h3
      subst h3
      exact ⟨a, ha, Way.here _, h2.symm, by rw [h2]; exact h0, ⟨k, h1⟩⟩

theorem Way.split {A : List ArcL} {lb : Nat → Int} : ∀ {u v : List Int} {f d : Nat}, Way A lb f (u ++ v) d → ∃ m, Way A lb f u m ∧ Way A lb m v d := by
  intro u
  induction u with
  | nil => intro v f d h; exact ⟨f, Way.here _, h⟩
  | cons l u ih =>
    intro v f d h
    obtain ⟨a, ha, h1, h2, h0, h3⟩ := Way.first (w := u ++ v) h
    obtain ⟨m, h4, h5⟩ := ih h3
    have := h1.append ((Way.arc (lb := lb) ha (by rw [h2]; exact h0)).append h4)
    rw [h2] at this
    exact ⟨m, this, h5⟩

/-- The last letter. -/
theorem Way.last {A : List ArcL} {lb : Nat → Int} {f d : Nat} {l : Int} {w : List Int} : Way A lb f (w ++ [l]) d ↔ ∃ a ∈ A, Way A lb f w a.frm ∧ lb a.tran = l ∧ l ≠ 0 ∧ Way A lb a.dst [] d := by
  constructor
  · intro h
    obtain ⟨m, h1, h2⟩ := h.split
    obtain ⟨a, ha, h3, h4, h5, h6⟩ := h2.first
    refine ⟨a, ha, ?_, h4, h5, h6⟩
    have := h1.append h3
    rwa [List.append_nil] at this
  · rintro ⟨a, ha, h1, h2, h3, h4⟩
    have := h1.append ((Way.arc (lb := lb) ha (by rw [h2]; exact h3)).append h4)
    rwa [h2] at this

theorem Way.end_lt {A : List ArcL} {lb : Nat → Int} {N f d : Nat} {w : List Int} (hA : ∀ a ∈ A, a.dst < N) (hf : f < N) (h : Way A lb f w d) : d < N := by
  obtain ⟨k, h⟩ := h
  induction k generalizing f w with
  | zero => obtain ⟨rfl, _⟩ := h; exact hf
  | succ k ih => obtain ⟨a, ha, e, u, h1, h2⟩ := h; exact ih (hA a ha) h1

/-! ### the shortest ones -/
theorem least_of {P : Nat → Prop} (h : ∃ n, P n) : ∃ n, P n ∧ ∀ m, P m → n ≤ m := by
  obtain ⟨n, hn⟩ := h
  induction n using Nat.strongRecOn with
  | ind n ih =>
    by_cases hm : ∃ m, m < n ∧ P m
    · obtain ⟨m, h1, h2⟩ := hm; exact ih m h1 h2
    · exact ⟨n, hn, fun m hP => Nat.le_of_not_lt fun h => hm ⟨m, h, hP⟩⟩

/-- So many letters, and among these so many arcs: no way to the end has less. -/
def Best (A : List ArcL) (lb : Nat → Int) (E : Nat → Prop) (f L k : Nat) : Prop :=
  (∃ w e, E e ∧ w.length = L ∧ WayN A lb k f w e) ∧ (∀ w e, E e → Way A lb f w e → L ≤ w.length) ∧ ∀ j w e, E e → w.length = L → WayN A lb j f w e → k ≤ j

theorem best_of {A : List ArcL} {lb : Nat → Int} {E : Nat → Prop} {f e : Nat} {w : List Int} (hE : E e) (h : Way A lb f w e) : ∃ L k, Best A lb E f L k := by
  obtain ⟨L, ⟨w1, e1, hE1, hL, h1⟩, hmin⟩ := least_of (P := fun L => ∃ w e, E e ∧ w.length = L ∧ Way A lb f w e) ⟨_, w, e, hE, rfl, h⟩
  obtain ⟨j1, h1⟩ := h1
  obtain ⟨k, ⟨w2, e2, hE2, hL2, h2⟩, hmin2⟩ := least_of (P := fun k => ∃ w e, E e ∧ w.length = L ∧ WayN A lb k f w e) ⟨_, w1, e1, hE1, hL, h1⟩
  exact ⟨L, k, ⟨w2, e2, hE2, hL2, h2⟩, fun w' e' hE' h' => hmin _ ⟨w', e', hE', rfl, h'⟩, fun j w' e' hE' hl h' => hmin2 j ⟨w', e', hE', hl, h'⟩⟩
theorem Best.one {A : List ArcL} {lb : Nat → Int} {E : Nat → Prop} {f L k L' k' : Nat} (h : Best A lb E f L k) (h' : Best A lb E f L' k') : L = L' ∧ k = k' := by
  obtain ⟨⟨w, e, hE, hL, h1⟩, h2, h3⟩ := h
  obtain ⟨⟨w', e', hE', hL', h1'⟩, h2', h3'⟩ := h'
  have a1 := h2 w' e' hE' ⟨_, h1'⟩
  have a2 := h2' w e hE ⟨_, h1⟩
  have e0 : L = L' := by omega
  subst e0
  have a3 := h3 _ w' e' hE' hL' h1'
  have a4 := h3' _ w e hE hL h1
  exact ⟨rfl, by omega⟩
theorem Best.down {A : List ArcL} {lb : Nat → Int} {E : Nat → Prop} {f L k : Nat} (h : Best A lb E f L (k + 1)) : ∃ a ∈ A, a.frm = f ∧ ∃ L', Best A lb E a.dst L' k := by
  obtain ⟨⟨w, e, hE, hL, a, ha, hf, u, h1, h2⟩, h3, h4⟩ := h
  obtain ⟨L', k', hB⟩ := best_of (f := a.dst) hE ⟨_, h1⟩
  refine ⟨a, ha, hf, L', ?_⟩
  obtain ⟨⟨w', e', hE', hL', q1⟩, q2, q3⟩ := hB
  have c1 := WayN.cons (lb := lb) ha q1
  rw [hf] at c1
  have c2 := h3 _ e' hE' ⟨_, c1⟩
  have c3 := q2 u e hE ⟨_, h1⟩
  have hul : u.length = L' ∧ (if lb a.tran = 0 then w' else lb a.tran :: w').length = L := by
    subst h2
    by_cases h0 : lb a.tran = 0
    · simp only [if_pos h0] at hL c2 ⊢; exact ⟨by omega, by omega⟩
    · simp only [if_neg h0, List.length_cons] at hL c2 ⊢; exact ⟨by omega, by omega⟩
  have c4 := h4 _ _ e' hE' hul.2 c1
  have c5 := q3 _ u e hE hul.1 h1
  obtain rfl : k = k' := by omega
  exact ⟨⟨w', e', hE', hL', q1⟩, q2, q3⟩

theorem nodup_nat {l1 : List Nat} : ∀ {l2 : List Nat}, l1.Nodup → (∀ x ∈ l1, x ∈ l2) → l1.length ≤ l2.length := by
  induction l1 with
  | nil => intro l2 _ _; exact Nat.zero_le _
  | cons x l1 ih =>
    intro l2 hn hs
    obtain ⟨h1, h2⟩ := List.nodup_cons.1 hn
    have := ih (l2 := l2.erase x) h2 fun y hy => (List.mem_erase_of_ne (fun e => h1 (by rw [← e]; exact hy))).2 (hs y (by simp [hy]))
    rw [List.length_erase_of_mem (hs x (by simp))] at this
    have h0 : 0 < l2.length := List.length_pos_of_mem (hs x (by simp))
    simp only [List.length_cons]
    omega

/-- As many marks as a best way has arcs lie ahead, each at another distance. -/
theorem Best.marks {A : List ArcL} {lb : Nat → Int} {E : Nat → Prop} {N : Nat} (hA : ∀ a ∈ A, a.dst < N) : ∀ {k f L : Nat}, f < N → Best A lb E f L k → ∃ l : List Nat, l.length = k + 1 ∧ l.Nodup ∧ ∀ x ∈ l, x < N ∧ ∃ L' j, j ≤ k ∧ Best A lb E x L' j := by
  intro k
  induction k with
  | zero => intro f L hf h; exact ⟨[f], rfl, by simp, fun x hx => by rw [List.mem_singleton.1 hx]; exact ⟨hf, L, 0, Nat.le_refl _, h⟩⟩
  | succ k ih =>
    intro f L hf h
    obtain ⟨a, ha, e, L', h'⟩ := h.down
    obtain ⟨l, h1, h2, h3⟩ := ih (hA a ha) h'
    refine ⟨f :: l, by simp [h1], List.nodup_cons.2 ⟨fun hm => ?_, h2⟩, fun x hx => ?_⟩
    · obtain ⟨_, L2, j, hj, hb⟩ := h3 f hm
      have := (hb.one h).2
      omega
    · rcases List.mem_cons.1 hx with rfl | hx
      · exact ⟨hf, L, k + 1, Nat.le_refl _, h⟩
      · obtain ⟨q1, L2, j, hj, hb⟩ := h3 x hx
        exact ⟨q1, L2, j, by omega, hb⟩
theorem Best.few {A : List ArcL} {lb : Nat → Int} {E : Nat → Prop} {N k f L : Nat} (hA : ∀ a ∈ A, a.dst < N) (hf : f < N) (h : Best A lb E f L k) : k < N := by
  obtain ⟨l, h1, h2, h3⟩ := h.marks hA hf
  have := nodup_nat (l2 := List.range N) h2 fun x hx => List.mem_range.2 (h3 x hx).1
  rw [List.length_range] at this
  omega
theorem WayN.len {A : List ArcL} {lb : Nat → Int} : ∀ {k f d : Nat} {w : List Int}, WayN A lb k f w d → w.length ≤ k := by
  intro k
  induction k with
  | zero => intro f d w h; rw [h.2]; simp
  | succ k ih =>
    intro f d w h
    obtain ⟨a, ha, e, u, h1, rfl⟩ := h
    have := ih h1
    split <;> simp <;> omega
theorem Best.short {A : List ArcL} {lb : Nat → Int} {E : Nat → Prop} {N k f L : Nat} (hA : ∀ a ∈ A, a.dst < N) (hf : f < N) (h : Best A lb E f L k) : L < N := by
  have h1 := h.few hA hf
  obtain ⟨⟨w, e, hE, hL, h2⟩, _⟩ := h
  have := h2.len
  omega

/-! ### the words of a net -/
def labT (n : NetL) (t : Nat) : Int := (tranAt n.trans t).label
def seenL (n : NetL) : List Int → List Int
  | [] => []
  | t :: ts => if labT n t.toNat = 0 then seenL n ts else labT n t.toNat :: seenL n ts
/-- Is it a word from mark to mark? -/
def WordN (n : NetL) (S E w : List Int) : Prop := ∃ seq, runL n S seq = (E, 0) ∧ seenL n seq = w
/-- Is it a word from a mark's number to the end? -/
def ToEnd (n : NetL) (s : SpaceL) (E : List Int) (f : Nat) (w : List Int) : Prop := ∃ e, e < s.marks.length ∧ markAt s.marks e = E ∧ Way s.arcs (labT n) f w e

theorem Whole.way_run {n : NetL} {m : List Int} {s : SpaceL} (h : Whole n m s) : ∀ {k f d : Nat} {w : List Int}, f < s.marks.length → WayN s.arcs (labT n) k f w d → d < s.marks.length ∧ ∃ seq, runL n (markAt s.marks f) seq = (markAt s.marks d, 0) ∧ seenL n seq = w := by
  have hfit : ∀ g, g < s.marks.length → fitsL n (markAt s.marks g) = true := by obtain ⟨most, k, hF, hk⟩ := h; exact fun g hg => hF.fits _ (markAt_mem hg)
  intro k
  induction k with
  | zero => intro f d w hf hw; obtain ⟨rfl, rfl⟩ := hw; exact ⟨hf, [], run_nil.2 ⟨hfit f hf, rfl⟩, rfl⟩
  | succ k ih =>
    intro f d w hf hw
    obtain ⟨a, ha, rfl, u, h1, rfl⟩ := hw
    obtain ⟨b1, b2, b3, b4⟩ := h.sound a ha
    obtain ⟨hd, seq, q1, q2⟩ := ih b2 h1
    exact ⟨hd, (a.tran : Int) :: seq, run_cons.2 ⟨_, b4, q1⟩, by simp only [seenL, Int.toNat_natCast, q2]⟩
theorem Whole.run_way {n : NetL} {m : List Int} {s : SpaceL} (h : Whole n m s) : ∀ (seq : List Int) {f : Nat} {z : List Int}, f < s.marks.length → runL n (markAt s.marks f) seq = (z, 0) → ∃ d, d < s.marks.length ∧ markAt s.marks d = z ∧ Way s.arcs (labT n) f (seenL n seq) d := by
  intro seq
  induction seq with
  | nil => intro f z hf hr; obtain ⟨_, rfl⟩ := run_nil.1 hr; exact ⟨f, hf, rfl, Way.here _⟩
  | cons t ts ih =>
    intro f z hf hr
    obtain ⟨y, h1, h2⟩ := run_cons.1 hr
    rcases h.fire hf t with h3 | ⟨j, g, rfl, hg, hgl, e⟩
    · rw [h1] at h3; simp at h3
    · rw [e] at h1
      injection h1 with h1 _
      subst h1
      obtain ⟨d, hd, hz, k, hk⟩ := ih hgl h2
      have := WayN.cons (lb := labT n) hg hk
      exact ⟨d, hd, hz, _, by simpa only [seenL, Int.toNat_natCast] using this⟩
theorem Whole.word {n : NetL} {S E w : List Int} {s : SpaceL} (h : Whole n S s) : WordN n S E w ↔ ToEnd n s E 0 w := by
  obtain ⟨h0, h1⟩ := h.here
  constructor
  · rintro ⟨seq, hr, rfl⟩
    rw [← h1] at hr
    obtain ⟨d, hd, hz, hw⟩ := h.run_way seq h0 hr
    exact ⟨d, hd, hz, hw⟩
  · rintro ⟨e, he, rfl, k, hw⟩
    obtain ⟨_, seq, q1, q2⟩ := h.way_run h0 hw
    rw [h1] at q1
    exact ⟨seq, q1, q2⟩

end Go.Proofs.YtffaamljogbmlaaDoor

/- What was ended in a case, in its order, is a word: plainly. What goes on is as if it had not been begun yet. -/
namespace Go.Proofs.YtffaamljogbmlaaDoor
set_option linter.unusedVariables false
set_option maxRecDepth 4000

/-- What is taken by all that goes on, of the first so many. -/
def backN (n : NetL) (b : List Int) (j : Nat) : Nat → Int
  | 0 => 0
  | t + 1 => backN n b j t + nth b t * nth (tranAt n.trans t).pre j
theorem backN_set (n : NetL) (b : List Int) (j k : Nat) (x : Int) (hk : k < b.length) : ∀ N, backN n (b.set k x) j N = backN n b j N + (if k < N then (x - nth b k) * nth (tranAt n.trans k).pre j else 0)
  | 0 => by simp [backN]
  | t + 1 => by
    rw [backN, backN_set n b j k x hk t, nth_set' _ _ _ _ hk, backN]
    by_cases e : t = k
    · subst e
      rw [if_pos rfl, if_neg (Nat.lt_irrefl _), if_pos (Nat.lt_succ_self _), Int.sub_mul]
      omega
    · rw [if_neg e]
      by_cases h : k < t
      · rw [if_pos h, if_pos (by omega)]; omega
      · rw [if_neg h, if_neg (by omega)]; omega
theorem backN_zero (n : NetL) (b : List Int) (j : Nat) (h : ∀ t, nth b t = 0) : ∀ N, backN n b j N = 0
  | 0 => rfl
  | t + 1 => by rw [backN, backN_zero n b j h t, h t]; simp
theorem backN_ge (n : NetL) (b : List Int) (j : Nat) (hn : netOk n = true) (h : ∀ t, 0 ≤ nth b t) : ∀ N, N ≤ n.trans.length → 0 ≤ backN n b j N ∧ ∀ k, k < N → nth b k * nth (tranAt n.trans k).pre j ≤ backN n b j N
  | 0, _ => ⟨Int.le_refl _, fun k hk => absurd hk (Nat.not_lt_zero _)⟩
  | t + 1, ht => by
    obtain ⟨h1, h2⟩ := backN_ge n b j hn h t (by omega)
    have hw : 0 ≤ nth (tranAt n.trans t).pre j := ((rightL_iff _).1 (tran_right (net_tran hn (show t < n.trans.length by omega))).1 j).1
    have h3 := Int.mul_nonneg (h t) hw
    rw [backN]
    refine ⟨by omega, fun k hk => ?_⟩
    rcases Nat.lt_or_ge k t with q | q
    · have := h2 k q; omega
    · obtain rfl : k = t := by omega
      omega
/-- The mark of a case with all that was taken by what goes on put back. -/
def fullC (n : NetL) (c : CaseL) : List Int := (List.range c.mark.length).map fun j => nth c.mark j + backN n c.busy j n.trans.length
theorem full_length (n : NetL) (c : CaseL) : (fullC n c).length = c.mark.length := by simp [fullC]
theorem full_at {n : NetL} {c : CaseL} {j : Nat} (h : j < c.mark.length) : nth (fullC n c) j = nth c.mark j + backN n c.busy j n.trans.length := by
  unfold nth fullC
  rw [List.getD_eq_getElem?_getD, List.getElem?_map, List.getElem?_range h]
  rfl
theorem full_zero {n : NetL} {c : CaseL} (h : ∀ t, nth c.busy t = 0) : fullC n c = c.mark := eq_of_at (full_length _ _) fun j => by
  rcases Nat.lt_or_ge j c.mark.length with q | q
  · rw [full_at q, backN_zero n _ _ h]; omega
  · rw [nth_past _ _ q, nth_past _ _ (by rw [full_length]; exact q)]

/-- What was ended of the first so many. -/
def wordTo (n : NetL) (os : List (Int × Int)) (es : List Int) : Nat → List Int
  | 0 => []
  | k + 1 => wordTo n os es k ++ (if nth es k = 0 ∧ (opAt os k).1 = 3 then [labT n (opAt os k).2.toNat] else [])
theorem wordTo_le (n : NetL) (os : List (Int × Int)) (es : List Int) : ∀ k, (wordTo n os es k).length ≤ k
  | 0 => Nat.le_refl _
  | k + 1 => by
    have := wordTo_le n os es k
    simp only [wordTo, List.length_append]
    split <;> simp <;> omega
theorem wordTo_yes {n : NetL} {os : List (Int × Int)} {es : List Int} {k : Nat} (h : nth es k = 0) (h3 : (opAt os k).1 = 3) : wordTo n os es (k + 1) = wordTo n os es k ++ [labT n (opAt os k).2.toNat] := by simp [wordTo, h, h3]
theorem wordTo_no {n : NetL} {os : List (Int × Int)} {es : List Int} {k : Nat} (h : ¬ (nth es k = 0 ∧ (opAt os k).1 = 3)) : wordTo n os es (k + 1) = wordTo n os es k := by
  rw [wordTo, if_neg h, List.append_nil]
theorem seen_append (n : NetL) : ∀ (a b : List Int), seenL n (a ++ b) = seenL n a ++ seenL n b
  | [], b => rfl
  | t :: a, b => by
    simp only [List.cons_append, seenL, seen_append n a b]
    split <;> simp

/-- One thing: nothing, or a firing. -/
theorem do_full {n : NetL} {c x : CaseL} {kind : Int} {k : Nat} (h : DoOk n c kind k x) :
    (kind ≠ 1 ∧ kind ≠ 3 ∧ fullC n x = fullC n c) ∨ ((kind = 1 ∨ kind = 3) ∧ coversL (fullC n c) (tranAt n.trans k).pre = true ∧ fullC n x = addL (subL (fullC n c) (tranAt n.trans k).pre) (tranAt n.trans k).post) := by
  obtain ⟨hf, hl, hr⟩ := rightC_iff.1 h.right
  obtain ⟨hn, hm, hmr⟩ := fits_net hf
  obtain ⟨hpl, hql⟩ := tran_length hn h.lt
  have hkl : k < c.busy.length := by rw [hl]; exact h.lt
  have hb0 : ∀ t, 0 ≤ nth c.busy t := fun t => ((rightL_iff _).1 hr t).1
  have hm0 : ∀ t, 0 ≤ nth c.mark t := fun t => ((rightL_iff _).1 hmr t).1
  have hkin : kind = 1 ∨ kind = 2 ∨ kind = 3 ∨ kind = 4 := by have := h.kind1; have := h.kind4; omega
  have hcov := (coversL_iff _ _).1 h.covers
  have hxl : x.mark.length = c.mark.length := by
    rw [h.out]
    show (addL (subL c.mark _) _).length = _
    rw [add_length, sub_length]
    have : (takeC (tranAt n.trans k) kind).length ≤ c.mark.length := by unfold takeC; split <;> (try simp only [List.length_nil]) <;> omega
    have : (giveC (tranAt n.trans k) kind).length ≤ c.mark.length := by unfold giveC; (repeat' split) <;> (try simp only [List.length_nil]) <;> omega
    omega
  have hat : ∀ j, j < c.mark.length → nth (fullC n x) j = nth c.mark j - nth (takeC (tranAt n.trans k) kind) j + nth (giveC (tranAt n.trans k) kind) j + (backN n c.busy j n.trans.length + moreC kind * nth (tranAt n.trans k).pre j) := fun j hj => by
    rw [full_at (by rw [hxl]; exact hj), h.out]
    show nth (addL (subL c.mark _) _) j + backN n (c.busy.set k _) j _ = _
    rw [add_at, sub_at, backN_set n _ _ _ _ hkl, if_pos h.lt, show nth c.busy k + moreC kind - nth c.busy k = moreC kind by omega]
  have hnil : ∀ j, nth ([] : List Int) j = 0 := fun j => by simp [nth]
  have heq : ∀ ys : List Int, ys.length = c.mark.length → (∀ j, j < c.mark.length → nth (fullC n x) j = nth ys j) → fullC n x = ys := fun ys hy hj => eq_of_at (by rw [full_length, hxl, hy]) fun j => by
    rcases Nat.lt_or_ge j c.mark.length with q | q
    · exact hj j q
    · rw [nth_past _ _ (by rw [full_length, hxl]; exact q), nth_past _ _ (by rw [hy]; exact q)]
  have hlen2 : (addL (subL (fullC n c) (tranAt n.trans k).pre) (tranAt n.trans k).post).length = c.mark.length := by
    rw [add_length, sub_length, full_length]; omega
  rcases hkin with rfl | rfl | rfl | rfl
  · refine .inr ⟨.inl rfl, (coversL_iff _ _).2 fun j => ?_, heq _ hlen2 fun j hj => ?_⟩
    · have := hcov j
      rw [show takeC (tranAt n.trans k) 1 = (tranAt n.trans k).pre by simp [takeC]] at this
      rcases Nat.lt_or_ge j c.mark.length with q | q
      · rw [full_at q]; have := (backN_ge n c.busy j hn hb0 _ (Nat.le_refl _)).1; omega
      · rw [nth_past _ _ (by omega), nth_past _ _ (by rw [full_length]; exact q)]; omega
    · rw [hat j hj, add_at, sub_at, full_at hj]
      simp [takeC, giveC, moreC]; omega
  · refine .inl ⟨by omega, by omega, heq _ (full_length _ _) fun j hj => ?_⟩
    rw [hat j hj, full_at hj]
    simp [takeC, giveC, moreC, hnil]; omega
  · have hb1 : 1 ≤ nth c.busy k := by have := h.more; simp [moreC] at this; omega
    refine .inr ⟨.inr rfl, (coversL_iff _ _).2 fun j => ?_, heq _ hlen2 fun j hj => ?_⟩
    · rcases Nat.lt_or_ge j c.mark.length with q | q
      · rw [full_at q]
        have h1 := (backN_ge n c.busy j hn hb0 _ (Nat.le_refl _)).2 k h.lt
        have hw : 0 ≤ nth (tranAt n.trans k).pre j := ((rightL_iff _).1 (tran_right (net_tran hn h.lt)).1 j).1
        have h2 := Int.mul_le_mul_of_nonneg_right hb1 hw
        have := hm0 j
        omega
      · rw [nth_past _ _ (by omega), nth_past _ _ (by rw [full_length]; exact q)]; omega
    · rw [hat j hj, add_at, sub_at, full_at hj]
      simp [takeC, giveC, moreC, hnil]; omega
  · refine .inl ⟨by omega, by omega, heq _ (full_length _ _) fun j hj => ?_⟩
    rw [hat j hj, full_at hj]
    simp [takeC, giveC, moreC, hnil]; omega

theorem Whole.covers_fire {n : NetL} {S : List Int} {s : SpaceL} (h : Whole n S s) {seq m : List Int} (hr : runL n S seq = (m, 0)) {k : Nat} (hk : k < n.trans.length) (hc : coversL m (tranAt n.trans k).pre = true) :
    fireL n m k = (addL (subL m (tranAt n.trans k).pre) (tranAt n.trans k).post, 0) := by
  obtain ⟨h0, h1⟩ := h.here
  rw [← h1] at hr
  obtain ⟨d, hd, hz, _⟩ := h.run_way seq h0 hr
  subst hz
  have hfit : fitsL n (markAt s.marks d) = true := by obtain ⟨most, q, hF, _⟩ := h; exact hF.fits _ (markAt_mem hd)
  cases hr2 : rightL (addL (subL (markAt s.marks d) (tranAt n.trans k).pre) (tranAt n.trans k).post) with
  | true => exact fire_mk hk hfit hc hr2
  | false =>
    have e : fireL n (markAt s.marks d) k = ([], 4) := by
      unfold fireL
      rw [hfit, decide_eq_true (show (0 : Int) ≤ k by omega), decide_eq_true (show (k : Int) < n.trans.length by omega), Int.toNat_natCast, hc, hr2]
      rfl
    rcases h.fire hd (k : Int) with q | ⟨j, g, _, _, _, q⟩
    · rw [e] at q; simp at q
    · rw [e] at q; simp at q

theorem case_word {n : NetL} {i : Int} {os : List (Int × Int)} {s : SpaceL} (hW : Whole n (startL n.places i) s) (hb : (beginC n i).2 = 0) :
    ∀ k, k ≤ os.length → ∃ seq, runL n (startL n.places i) seq = (fullC n (caseAt n (beginC n i).1 os k), 0) ∧ seenL n seq = wordTo n os (playC n (beginC n i).1 os).2 k
  | 0, _ => by
    obtain ⟨hr, hn, hi⟩ := begin_right hb
    have e : caseAt n (beginC n i).1 os 0 = (beginC n i).1 := rfl
    rw [e, begin_ok hn hi] at *
    refine ⟨[], run_nil.2 ⟨(rightC_iff.1 hr).1, full_zero fun t => zeros_at _ _⟩, rfl⟩
  | k + 1, hk => by
    obtain ⟨seq, h1, h2⟩ := case_word (os := os) hW hb k (by omega)
    have he := err_at n (beginC n i).1 (os := os) (k := k) (by omega)
    rw [caseAt_succ n _ (by omega : k < os.length)]
    by_cases hz : (doC n (caseAt n (beginC n i).1 os k) (opAt os k).1 (opAt os k).2).2 = 0
    · have hstep : stepC n (caseAt n (beginC n i).1 os k) (opAt os k) = (doC n (caseAt n (beginC n i).1 os k) (opAt os k).1 (opAt os k).2).1 := by unfold stepC; rw [if_pos hz]
      rw [hz] at he
      obtain ⟨t, ht, hD⟩ := do_ok.1 (show doC n (caseAt n (beginC n i).1 os k) (opAt os k).1 (opAt os k).2 = ((doC n (caseAt n (beginC n i).1 os k) (opAt os k).1 (opAt os k).2).1, 0) from Prod.ext rfl hz)
      rw [hstep]
      rcases do_full hD with ⟨q1, q3, q⟩ | ⟨q1, q2, q⟩
      · exact ⟨seq, by rw [q]; exact h1, by rw [h2, wordTo_no (by rintro ⟨_, r⟩; exact q3 r)]⟩
      · refine ⟨seq ++ [(t : Int)], run_one h1 (by rw [q]; exact hW.covers_fire h1 hD.lt q2), ?_⟩
        rw [seen_append, h2]
        have hlab := hD.form
        rcases q1 with q1 | q1
        · rw [wordTo_no (by rintro ⟨_, r⟩; omega)]
          have : labT n t = 0 := hlab.2 q1
          simp [seenL, this]
        · rw [wordTo_yes he q1, ht]
          have : labT n t ≠ 0 := fun r => by have := hlab.1 r; omega
          simp [seenL, this]
    · have hstep : stepC n (caseAt n (beginC n i).1 os k) (opAt os k) = caseAt n (beginC n i).1 os k := by unfold stepC; rw [if_neg hz]
      rw [hstep]
      exact ⟨seq, h1, by rw [h2, wordTo_no (by rintro ⟨r, _⟩; rw [he] at r; exact hz r)]⟩

/-- Where it is at its end and nothing goes on. -/
theorem case_said {n : NetL} {i o : Int} {os : List (Int × Int)} {s : SpaceL} (hW : Whole n (startL n.places i) s) (hb : (beginC n i).2 = 0)
    (hm : (playC n (beginC n i).1 os).1.mark = startL n.places o) (hz : ∀ t, nth (playC n (beginC n i).1 os).1.busy t = 0) : WordN n (startL n.places i) (startL n.places o) (wordTo n os (playC n (beginC n i).1 os).2 os.length) := by
  obtain ⟨seq, h1, h2⟩ := case_word (os := os) hW hb os.length (Nat.le_refl _)
  rw [caseAt_all n _ (Nat.le_refl _), full_zero hz, hm] at h1
  exact ⟨seq, h1, h2⟩

end Go.Proofs.YtffaamljogbmlaaDoor

/- A value that is a space of whatever arcs. -/
namespace Go.Proofs.YtffaamljogbmlaaDoor
open Go.RowKit
set_option linter.unusedVariables false
set_option maxRecDepth 4000

/-- A space; there are not more marks than memory holds. -/
def SpaceV (w : World) (v : Value) (s : SpaceZ) : Prop := s.marks.length ≤ 5864062014805 ∧ ∃ mv av, v = .agg #[mv, av] ∧ Lists w mv s.marks ∧ Arcs w av s.arcs
theorem SpaceV.below {w w' : World} {v : Value} {s : SpaceZ} (h : SpaceV w v s) (hb : Below w.heap.size w w') : SpaceV w' v s := by
  obtain ⟨hN, mv, av, e, h1, h2⟩ := h
  exact ⟨hN, mv, av, e, h1.below hb, h2.below hb⟩
theorem Space.toV {w : World} {v : Value} {s : SpaceL} (h : Space w v s) (hl : s.marks.length ≤ 300) : SpaceV w v (toZ s) := ⟨by simp only [toZ]; omega, h⟩
theorem graphL_small (n : NetL) (m : List Int) (most : Int) : (graphL n m most).1.marks.length ≤ 300 := by
  by_cases h : (graphL n m most).2 = 0
  · have h1 := graphL_ok (s := (graphL n m most).1) (by rw [← h])
    have h2 := h1.2.2.2.2.most_le
    omega
  · rw [graphL_err h]; simp

theorem lists_lit3 (w : World) (b : Nat) (v0 v1 v2 : Value) (x0 x1 x2 : List Int) (h0 : Ints w v0 x0) (h1 : Ints w v1 x1) (h2 : Ints w v2 x2) (hb : b = w.heap.size) : Lists (w.alloc (.cells #[v0, v1, v2] 27)) (.slice (some ⟨b, 0, none⟩) 3 3) [x0, x1, x2] := by
  subst hb
  have b1 := below_new w (.cells #[v0, v1, v2] 27)
  refine ⟨_, _, _, rfl, rfl, by omega, ⟨by omega, by omega, fun h => by cases h⟩, fun j hj => ?_⟩
  match j, hj with
  | 0, _ => exact ⟨w.heap.size, 0, v0, rfl, by simp, by rw [World.cell?_alloc_at _ _ _ _ rfl]; rfl, h0.below b1⟩
  | 1, _ => exact ⟨w.heap.size, 0, v1, rfl, by simp, by rw [World.cell?_alloc_at _ _ _ _ rfl]; rfl, h1.below b1⟩
  | 2, _ => exact ⟨w.heap.size, 0, v2, rfl, by simp, by rw [World.cell?_alloc_at _ _ _ _ rfl]; rfl, h2.below b1⟩
  | j + 3, h => simp at h; omega
theorem lists_lit1 (w : World) (b : Nat) (v0 : Value) (x0 : List Int) (h0 : Ints w v0 x0) (hb : b = w.heap.size) : Lists (w.alloc (.cells #[v0] 27)) (.slice (some ⟨b, 0, none⟩) 1 1) [x0] := by
  subst hb
  have b1 := below_new w (.cells #[v0] 27)
  refine ⟨_, _, _, rfl, rfl, by omega, ⟨by omega, by omega, fun h => by cases h⟩, fun j hj => ?_⟩
  match j, hj with
  | 0, _ => exact ⟨w.heap.size, 0, v0, rfl, by simp, by rw [World.cell?_alloc_at _ _ _ _ rfl]; rfl, h0.below b1⟩
  | j + 1, h => simp at h
theorem arcs_lit3 (w : World) (b : Nat) (a0 a1 a2 b0 b1 b2 c0 c1 c2 : Int) (hb : b = w.heap.size) :
    Arcs (w.alloc (.cells #[.int .i64 a0, .int .i64 a1, .int .i64 a2, .int .i64 b0, .int .i64 b1, .int .i64 b2, .int .i64 c0, .int .i64 c1, .int .i64 c2] 76)) (.slice (some ⟨b, 0, none⟩) 3 3) [(a0, a1, a2), (b0, b1, b2), (c0, c1, c2)] := by
  subst hb
  refine ⟨_, _, _, rfl, rfl, by omega, ⟨by omega, by omega, fun h => by cases h⟩, fun j hj => ?_⟩
  match j, hj with
  | 0, _ => exact ⟨w.heap.size, 0, rfl, by simp, by rw [World.cell?_alloc_at _ _ _ _ rfl]; rfl, by rw [World.cell?_alloc_at _ _ _ _ rfl]; rfl, by rw [World.cell?_alloc_at _ _ _ _ rfl]; rfl⟩
  | 1, _ => exact ⟨w.heap.size, 0, rfl, by simp, by rw [World.cell?_alloc_at _ _ _ _ rfl]; rfl, by rw [World.cell?_alloc_at _ _ _ _ rfl]; rfl, by rw [World.cell?_alloc_at _ _ _ _ rfl]; rfl⟩
  | 2, _ => exact ⟨w.heap.size, 0, rfl, by simp, by rw [World.cell?_alloc_at _ _ _ _ rfl]; rfl, by rw [World.cell?_alloc_at _ _ _ _ rfl]; rfl, by rw [World.cell?_alloc_at _ _ _ _ rfl]; rfl⟩
  | j + 3, h => simp at h; omega
theorem arcs_lit1 (w : World) (b : Nat) (a0 a1 a2 : Int) (hb : b = w.heap.size) :
    Arcs (w.alloc (.cells #[.int .i64 a0, .int .i64 a1, .int .i64 a2] 76)) (.slice (some ⟨b, 0, none⟩) 1 1) [(a0, a1, a2)] := by
  subst hb
  refine ⟨_, _, _, rfl, rfl, by omega, ⟨by omega, by omega, fun h => by cases h⟩, fun j hj => ?_⟩
  match j, hj with
  | 0, _ => exact ⟨w.heap.size, 0, rfl, by simp, by rw [World.cell?_alloc_at _ _ _ _ rfl]; rfl, by rw [World.cell?_alloc_at _ _ _ _ rfl]; rfl, by rw [World.cell?_alloc_at _ _ _ _ rfl]; rfl⟩
  | j + 1, h => simp at h

end Go.Proofs.YtffaamljogbmlaaDoor

/- Who comes where: a square of yes and no, plainly and in memory. -/
namespace Go.Proofs.YtffaamljogbmlaaDoor
open Go.RowKit
set_option linter.unusedVariables false
set_option maxRecDepth 4000

/-! ### plainly -/
def upd2 (M : Nat → Nat → Bool) (k b : Nat) : Nat → Nat → Bool := fun i j => if i = k ∧ j = b then true else M i j
def falF (M : Nat → Nat → Bool) (n : Nat) : Nat → Nat
  | 0 => 0
  | i + 1 => falF M n i + cntF (M i) n

theorem falF_same {M N : Nat → Nat → Bool} (n : Nat) : ∀ (i : Nat), (∀ k, k < i → ∀ j, N k j = M k j) → falF N n i = falF M n i
  | 0, _ => rfl
  | i + 1, h => by
    simp only [falF]
    rw [falF_same n i fun k hk => h k (by omega), cntF_same n fun j _ => h i (by omega) j]
theorem falF_set {M : Nat → Nat → Bool} {k b n : Nat} (hb : b < n) (hf : M k b = false) : ∀ (i : Nat), k < i → falF (upd2 M k b) n i + 1 = falF M n i
  | 0, h => absurd h (Nat.not_lt_zero _)
  | i + 1, h => by
    simp only [falF]
    by_cases e : k = i
    · subst e
      rw [falF_same n k fun x hx j => by unfold upd2; rw [if_neg (by omega)]]
      have := cntF_set (f := M k) (g := upd2 M k b k) (b := b) hf (by unfold upd2; simp) (fun j hj => by unfold upd2; rw [if_neg (by omega)]) n hb
      omega
    · have h1 := falF_set hb hf i (by omega)
      have h2 : cntF (upd2 M k b i) n = cntF (M i) n := cntF_same n fun j _ => by unfold upd2; rw [if_neg (by omega)]
      omega

structure MatOk (s : SpaceZ) (M : Nat → Nat → Bool) : Prop where
  refl : ∀ i : Nat, M i i = true
  sound : ∀ i j : Nat, i < s.marks.length → j < s.marks.length → M i j = true → Comes s i j
theorem MatOk.start (s : SpaceZ) : MatOk s (fun i j => decide (i = j)) :=
  ⟨fun i => by simp, fun i j _ _ h => by have : i = j := by simpa using h
                                         subst this; exact .here _⟩
theorem MatOk.put {s : SpaceZ} {M : Nat → Nat → Bool} (h : MatOk s M) {k f b : Nat} {y : Int} (hk : k < s.marks.length) (hf : f < s.marks.length) (ha : ((f : Int), y, (b : Int)) ∈ s.arcs) (hM : M k f = true) : MatOk s (upd2 M k b) := by
  refine ⟨fun i => ?_, fun i j hi hj hij => ?_⟩
  · unfold upd2
    split
    · rfl
    · exact h.refl i
  · unfold upd2 at hij
    split at hij
    · rename_i e
      obtain ⟨rfl, rfl⟩ := e
      exact Comes.go (a := ((f : Int), y, (j : Int))) (h.sound i f hk hf hM) ha
    · exact h.sound i j hi hj hij

/-- The first p arcs, and of the next one the first k rows, bring nothing new. -/
def ShutTo (s : SpaceZ) (M : Nat → Nat → Bool) (p k : Nat) : Prop :=
  ∀ q (hq : q < s.arcs.length) (f b i : Nat), s.arcs[q].1 = f → s.arcs[q].2.2 = b → i < s.marks.length → (q < p ∨ q = p ∧ i < k) → M i f = true → M i b = true
def Pass (s : SpaceZ) (M0 M : Nat → Nat → Bool) (again : Bool) (p k : Nat) : Prop :=
  MatOk s M ∧ if again then falF M s.marks.length s.marks.length < falF M0 s.marks.length s.marks.length else M = M0 ∧ ShutTo s M0 p k

theorem Pass.start {s : SpaceZ} {M : Nat → Nat → Bool} (h : MatOk s M) : Pass s M M false 0 0 :=
  ⟨h, rfl, fun q _ _ _ _ _ _ _ h => by omega⟩
theorem Pass.next {s : SpaceZ} {M0 M : Nat → Nat → Bool} {again : Bool} {p k : Nat} (h : Pass s M0 M again p k) (hk : s.marks.length ≤ k) : Pass s M0 M again (p + 1) 0 := by
  refine ⟨h.1, ?_⟩
  have h2 := h.2
  cases again
  · exact ⟨h2.1, fun q hq f b i e1 e2 hi hqp => h2.2 q hq f b i e1 e2 hi (by omega)⟩
  · exact h2
theorem Pass.skip {s : SpaceZ} {M0 M : Nat → Nat → Bool} {again : Bool} {p k f b : Nat} {y : Int} (h : Pass s M0 M again p k) (hp : p < s.arcs.length) (ha : s.arcs[p] = ((f : Int), y, (b : Int))) (hM : M k f = true → M k b = true) : Pass s M0 M again p (k + 1) := by
  refine ⟨h.1, ?_⟩
  have h2 := h.2
  cases again
  · refine ⟨h2.1, fun q hq f' b' i e1 e2 hi hqp => ?_⟩
    by_cases e : q = p ∧ i = k
    · obtain ⟨rfl, rfl⟩ := e
      rw [ha] at e1 e2
      simp only at e1 e2
      obtain rfl : f = f' := by omega
      obtain rfl : b = b' := by omega
      rw [← h2.1]
      exact hM
    · exact h2.2 q hq f' b' i e1 e2 hi (by omega)
  · exact h2
theorem Pass.put {s : SpaceZ} {M0 M : Nat → Nat → Bool} {again : Bool} {p k f b : Nat} {y : Int} (h : Pass s M0 M again p k) (hp : p < s.arcs.length) (ha : s.arcs[p] = ((f : Int), y, (b : Int))) (hk : k < s.marks.length) (hf : f < s.marks.length) (hb : b < s.marks.length)
    (h1 : M k f = true) (h2 : M k b = false) : Pass s M0 (upd2 M k b) true p (k + 1) := by
  refine ⟨h.1.put (y := y) hk hf (by rw [← ha]; exact List.getElem_mem hp) h1, ?_⟩
  show _ < _
  have e := falF_set (M := M) hb h2 s.marks.length hk
  have h3 := h.2
  cases again
  · obtain ⟨e1, _⟩ := h3
    subst e1
    omega
  · have h3 : falF M s.marks.length s.marks.length < falF M0 s.marks.length s.marks.length := h3
    omega

def IsReach (s : SpaceZ) (M : Nat → Nat → Bool) : Prop := ∀ i j : Nat, i < s.marks.length → j < s.marks.length → (M i j = true ↔ Comes s i j)
theorem Pass.reach {s : SpaceZ} {M0 M : Nat → Nat → Bool} {p : Nat} (hr : rightS s = true) (h : Pass s M0 M false p 0) (hp : s.arcs.length ≤ p) : IsReach s M := by
  obtain ⟨hok, rfl, hs⟩ := h
  intro i j hi hj
  refine ⟨hok.sound i j hi hj, fun hc => ?_⟩
  have key : ∀ {x y : Int}, Comes s x y → x = (i : Int) → ∃ g : Nat, y = g ∧ g < s.marks.length ∧ M i g = true := by
    intro x y hc
    induction hc using Comes.ind with
    | here => intro e; subst e; exact ⟨i, rfl, hi, hok.refl i⟩
    | go h1 h2 ih =>
      intro e
      obtain ⟨g, eg, hg, hM⟩ := ih e
      obtain ⟨q, hq, rfl⟩ := List.getElem_of_mem h2
      obtain ⟨_, _, r1, r2⟩ := rightS_iff.1 hr _ h2
      obtain ⟨b, eb⟩ := Int.eq_ofNat_of_zero_le r1
      exact ⟨b, eb, by omega, hs q hq g b i eg eb hi (by omega) hM⟩
  obtain ⟨g, eg, _, hM⟩ := key hc rfl
  obtain rfl : j = g := by omega
  exact hM

/-! ### in memory -/
structure MatAt (b : Nat) (w wr : World) (n : Nat) (rb : Nat → Nat) (k : Nat) (M : Nat → Nat → Bool) : Prop where
  rows : ∀ i, i < k → wr.cell? ⟨b, i, none⟩ = some (.slice (some ⟨rb i, 0, none⟩) n n)
  outer : ∀ i, i < n → (∃ u, wr.cell? ⟨b, i, none⟩ = some u) ∧ wr.frozen? ⟨b, i, none⟩ = false
  cells : ∀ i j, i < k → j < n → wr.cell? ⟨rb i, j, none⟩ = some (.bool (M i j))
  frozen : ∀ i j, i < k → j < n → wr.frozen? ⟨rb i, j, none⟩ = false
  newer : ∀ i, i < k → b < rb i ∧ rb i < wr.heap.size
  inj : ∀ i j, i < k → j < k → rb i = rb j → i = j
  below : Below b w wr
  size : b < wr.heap.size

theorem MatAt.to {b : Nat} {w wr w2 : World} {n : Nat} {rb : Nat → Nat} {k : Nat} {M : Nat → Nat → Bool} (h : MatAt b w wr n rb k M) (hb : Below wr.heap.size wr w2) : MatAt b w w2 n rb k M :=
  ⟨fun i hi => by rw [hb.cell (p := ⟨b, i, none⟩) h.size]; exact h.rows i hi,
   fun i hi => ⟨by rw [hb.cell (p := ⟨b, i, none⟩) h.size]; exact (h.outer i hi).1, by rw [hb.frozen (p := ⟨b, i, none⟩) h.size]; exact (h.outer i hi).2⟩,
   fun i j hi hj => by rw [hb.cell (p := ⟨rb i, j, none⟩) (h.newer i hi).2]; exact h.cells i j hi hj,
   fun i j hi hj => by rw [hb.frozen (p := ⟨rb i, j, none⟩) (h.newer i hi).2]; exact h.frozen i j hi hj,
   fun i hi => ⟨(h.newer i hi).1, Nat.lt_of_lt_of_le (h.newer i hi).2 hb.size⟩, h.inj, h.below.trans (hb.mono (Nat.le_of_lt h.size)), Nat.lt_of_lt_of_le h.size hb.size⟩

theorem MatAt.put {b : Nat} {w wr : World} {n : Nat} {rb : Nat → Nat} {k : Nat} {M : Nat → Nat → Bool} (h : MatAt b w wr n rb k M) {i j : Nat} (hi : i < k) (hj : j < n) : MatAt b w (wr.setCell ⟨rb i, j, none⟩ (.bool true)) n rb k (upd2 M i j) := by
  have ne : ∀ x, (⟨rb i, j, none⟩ : Addr) ≠ ⟨b, x, none⟩ := fun x e => by have := (h.newer i hi).1; injection e with e1 _; omega
  refine ⟨fun x hx => by rw [World.cell?_setCell_other _ _ _ _ (ne x)]; exact h.rows x hx, fun x hx => ⟨by rw [World.cell?_setCell_other _ _ _ _ (ne x)]; exact (h.outer x hx).1, by rw [World.frozen?_setCell]; exact (h.outer x hx).2⟩, fun x y hx hy => ?_,
    fun x y hx hy => by rw [World.frozen?_setCell]; exact h.frozen x y hx hy, fun x hx => ⟨(h.newer x hx).1, by simpa [World.setCell] using (h.newer x hx).2⟩, h.inj, h.below.setCell (Nat.le_of_lt (h.newer i hi).1) _, by simpa [World.setCell] using h.size⟩
  by_cases e : x = i ∧ y = j
  · obtain ⟨rfl, rfl⟩ := e
    rw [World.cell?_setCell_same _ _ _ (h.cells x y hx hy)]
    simp [upd2]
  · rw [World.cell?_setCell_other _ _ _ _ (by intro q; injection q with q1 q2; exact e ⟨(h.inj i x hi hx q1).symm, q2.symm⟩), h.cells x y hx hy]
    simp [upd2, e]

theorem matAt_new {w w1 : World} {n : Nat} (hb : Below w.heap.size w w1) (hs : w.heap.size < w1.heap.size) (hc : ∀ j, j < n → w1.cell? ⟨w.heap.size, j, none⟩ = some (.slice none 0 0) ∧ w1.frozen? ⟨w.heap.size, j, none⟩ = false) (rb : Nat → Nat) (M : Nat → Nat → Bool) :
    MatAt w.heap.size w w1 n rb 0 M :=
  ⟨fun i hi => absurd hi (Nat.not_lt_zero _), fun i hi => ⟨⟨_, (hc i hi).1⟩, (hc i hi).2⟩, fun i j hi => absurd hi (Nat.not_lt_zero _), fun i j hi => absurd hi (Nat.not_lt_zero _), fun i hi => absurd hi (Nat.not_lt_zero _), fun i j hi => absurd hi (Nat.not_lt_zero _), hb, hs⟩

/-- One more row, with a yes where it meets itself. -/
theorem MatAt.grow {b : Nat} {w wr w2 : World} {n : Nat} {rb : Nat → Nat} {k : Nat} (h : MatAt b w wr n rb k (fun i j => decide (i = j))) (hk : k < n) (hb : Below wr.heap.size wr w2) (hs : wr.heap.size < w2.heap.size)
    (hc : ∀ j, j < n → w2.cell? ⟨wr.heap.size, j, none⟩ = some (.bool false) ∧ w2.frozen? ⟨wr.heap.size, j, none⟩ = false) :
    MatAt b w ((w2.setCell ⟨b, k, none⟩ (.slice (some ⟨wr.heap.size, 0, none⟩) n n)).setCell ⟨wr.heap.size, k, none⟩ (.bool true)) n (fun i => if i = k then wr.heap.size else rb i) (k + 1) (fun i j => decide (i = j)) := by
  have h2 := h.to hb
  have hbs := h.size
  have nb : ∀ x y, (⟨wr.heap.size, x, none⟩ : Addr) ≠ ⟨b, y, none⟩ := fun x y e => by injection e with e1 _; omega
  have nr : ∀ i, i < k → ∀ x y, (⟨wr.heap.size, x, none⟩ : Addr) ≠ ⟨rb i, y, none⟩ := fun i hi x y e => by have := (h.newer i hi).2; injection e with e1 _; omega
  have no : ∀ i, i < k → ∀ x y, (⟨b, x, none⟩ : Addr) ≠ ⟨rb i, y, none⟩ := fun i hi x y e => by have := (h.newer i hi).1; injection e with e1 _; omega
  refine ⟨fun i hi => ?_, fun i hi => ?_, fun i j hi hj => ?_, fun i j hi hj => ?_, fun i hi => ?_, fun i j hi hj e => ?_, (h2.below.setCell (Nat.le_refl _) _).setCell (Nat.le_of_lt hbs) _, by simpa [World.setCell] using h2.size⟩
  · rw [World.cell?_setCell_other _ _ _ _ (nb _ _)]
    by_cases e : i = k
    · subst e
      obtain ⟨u, hu⟩ := (h2.outer i hk).1
      rw [World.cell?_setCell_same _ _ _ hu, if_pos rfl]
    · rw [World.cell?_setCell_other _ _ _ _ (by intro q; injection q with _ q2; omega), if_neg e]
      exact h2.rows i (by omega)
  · refine ⟨?_, by rw [World.frozen?_setCell, World.frozen?_setCell]; exact (h2.outer i hi).2⟩
    rw [World.cell?_setCell_other _ _ _ _ (nb _ _)]
    by_cases e : i = k
    · subst e
      obtain ⟨u, hu⟩ := (h2.outer i hk).1
      exact ⟨_, World.cell?_setCell_same _ _ _ hu⟩
    · rw [World.cell?_setCell_other _ _ _ _ (by intro q; injection q with _ q2; omega)]
      exact (h2.outer i hi).1
  · by_cases e : i = k
    · subst e
      simp only [if_true]
      by_cases e2 : j = i
      · subst e2
        rw [World.cell?_setCell_same (u := .bool false) _ _ _ (by rw [World.cell?_setCell_other _ _ _ _ (fun q => nb _ _ q.symm)]; exact (hc j hj).1)]
        simp
      · rw [World.cell?_setCell_other _ _ _ _ (by intro q; injection q with _ q2; omega), World.cell?_setCell_other _ _ _ _ (fun q => nb _ _ q.symm), (hc j hj).1]
        have : ¬ i = j := by omega
        simp [this]
    · simp only [if_neg e]
      rw [World.cell?_setCell_other _ _ _ _ (nr i (by omega) _ _), World.cell?_setCell_other _ _ _ _ (no i (by omega) _ _)]
      exact h2.cells i j (by omega) hj
  · rw [World.frozen?_setCell, World.frozen?_setCell]
    by_cases e : i = k
    · simp only [if_pos e]; exact (hc j hj).2
    · simp only [if_neg e]; exact h2.frozen i j (by omega) hj
  · by_cases e : i = k
    · simp only [if_pos e]; exact ⟨hbs, by simpa [World.setCell] using hs⟩
    · simp only [if_neg e]; exact ⟨(h2.newer i (by omega)).1, by simpa [World.setCell] using (h2.newer i (by omega)).2⟩
  · by_cases e1 : i = k
    · by_cases e2 : j = k
      · omega
      · simp only [if_pos e1, if_neg e2] at e
        have := (h.newer j (by omega)).2
        omega
    · by_cases e2 : j = k
      · simp only [if_neg e1, if_pos e2] at e
        have := (h.newer i (by omega)).2
        omega
      · simp only [if_neg e1, if_neg e2] at e
        exact h.inj i j (by omega) (by omega) e

theorem box3_put {w : World} {b : Nat} {x y z u : Value} {p : Addr} (h : Box3 w b x y z) (hp : p.block ≠ b) : Box3 (w.setCell p u) b x y z := by
  have ne : ∀ j, (⟨b, j, none⟩ : Addr) ≠ p := fun j e => hp (by rw [← e])
  refine ⟨by simpa [World.setCell] using h.1, ?_, ?_, ?_⟩
  · rw [World.cell?_setCell_other _ _ _ _ (Ne.symm (ne 0))]; exact h.2.1
  · rw [World.cell?_setCell_other _ _ _ _ (Ne.symm (ne 1))]; exact h.2.2.1
  · rw [World.cell?_setCell_other _ _ _ _ (Ne.symm (ne 2))]; exact h.2.2.2

/-- As it is read. -/
structure MatR (w : World) (b n : Nat) (rb : Nat → Nat) (M : Nat → Nat → Bool) : Prop where
  lt : b < w.heap.size
  rows : ∀ i, i < n → w.cell? ⟨b, i, none⟩ = some (.slice (some ⟨rb i, 0, none⟩) n n)
  rlt : ∀ i, i < n → rb i < w.heap.size
  cells : ∀ i j, i < n → j < n → w.cell? ⟨rb i, j, none⟩ = some (.bool (M i j))
theorem MatR.below {w w' : World} {b n : Nat} {rb : Nat → Nat} {M : Nat → Nat → Bool} (h : MatR w b n rb M) (hb : Below w.heap.size w w') : MatR w' b n rb M :=
  ⟨Nat.lt_of_lt_of_le h.lt hb.size, fun i hi => by rw [hb.cell (p := ⟨b, i, none⟩) h.lt]; exact h.rows i hi, fun i hi => Nat.lt_of_lt_of_le (h.rlt i hi) hb.size, fun i j hi hj => by rw [hb.cell (p := ⟨rb i, j, none⟩) (h.rlt i hi)]; exact h.cells i j hi hj⟩
theorem MatAt.read {b : Nat} {w wr : World} {n : Nat} {rb : Nat → Nat} {M : Nat → Nat → Bool} (h : MatAt b w wr n rb n M) : MatR wr b n rb M :=
  ⟨h.size, h.rows, fun i hi => (h.newer i hi).2, h.cells⟩

end Go.Proofs.YtffaamljogbmlaaDoor

/- A box for a space that is made ahead of the space. -/
namespace Go.Proofs.YtffaamljogbmlaaDoor
open Go.RowKit
set_option linter.unusedVariables false
set_option maxRecDepth 4000

/-- A cell that holds an empty slice is none that a list of marks, each with something, is read from. -/
theorem ints_putNil {w : World} {v : Value} {xs : List Int} {p : Addr} (h : Ints w v xs) (hp : w.cell? p = some (.slice none 0 0)) (u : Value) : Ints (w.setCell p u) v xs := by
  obtain ⟨a, len, cap, e, hl, hm, hs, hr⟩ := h
  refine ⟨a, len, cap, e, hl, hm, hs, fun j hj => ?_⟩
  obtain ⟨b, off, ha, hb, hc⟩ := hr j hj
  refine ⟨b, off, ha, by simpa [World.setCell] using hb, ?_⟩
  rw [World.cell?_setCell_other _ _ _ _ (by intro e; rw [← e, hp] at hc; cases hc)]
  exact hc
theorem lists_putNil {w : World} {v : Value} {ls : List (List Int)} {p : Addr} (h : Lists w v ls) (hne : ∀ j, j < ls.length → markAt ls j ≠ []) (hp : w.cell? p = some (.slice none 0 0)) (u : Value) : Lists (w.setCell p u) v ls := by
  obtain ⟨a, len, cap, e, hl, hm, hs, hr⟩ := h
  refine ⟨a, len, cap, e, hl, hm, hs, fun j hj => ?_⟩
  obtain ⟨b, off, x, ha, hb, hc, hi⟩ := hr j hj
  refine ⟨b, off, x, ha, by simpa [World.setCell] using hb, ?_, ints_putNil hi hp u⟩
  rw [World.cell?_setCell_other _ _ _ _ ?_]
  · exact hc
  · intro e
    rw [← e, hp] at hc
    injection hc with hc
    subst hc
    obtain ⟨a', len', cap', e', hl', _⟩ := hi
    injection e' with _ e'
    exact hne j hj (List.length_eq_zero_iff.1 (by have : (ls.getD j []).length = len' := hl'; rw [← e'] at this; exact this))
theorem arcs_putNil {w : World} {v : Value} {l : List (Int × Int × Int)} {p : Addr} (h : Arcs w v l) (hp : w.cell? p = some (.slice none 0 0)) (u : Value) : Arcs (w.setCell p u) v l := by
  obtain ⟨a, len, cap, e, hl, hm, hs, hr⟩ := h
  refine ⟨a, len, cap, e, hl, hm, hs, fun j hj => ?_⟩
  obtain ⟨b, off, ha, hb, c0, c1, c2⟩ := hr j hj
  refine ⟨b, off, ha, by simpa [World.setCell] using hb, ?_, ?_, ?_⟩
  · rw [World.cell?_setCell_other _ _ _ _ (by intro e; rw [← e, hp] at c0; cases c0)]; exact c0
  · rw [World.cell?_setCell_other _ _ _ _ (by intro e; rw [← e, hp] at c1; cases c1)]; exact c1
  · rw [World.cell?_setCell_other _ _ _ _ (by intro e; rw [← e, hp] at c2; cases c2)]; exact c2
theorem space_putNil {w : World} {v : Value} {s : SpaceL} {p : Addr} (h : Space w v s) (hne : ∀ j, j < s.marks.length → markAt s.marks j ≠ []) (hp : w.cell? p = some (.slice none 0 0)) (u : Value) : Space (w.setCell p u) v s := by
  obtain ⟨mv, av, e, h1, h2⟩ := h
  exact ⟨mv, av, e, lists_putNil h1 hne hp u, arcs_putNil h2 hp u⟩

/-- A box for a space, made and still empty. -/
def NilBox (w : World) (b : Nat) : Prop := w.heap[b]? = some (.cells #[.slice none 0 0, .slice none 0 0] 72 (0, 0))
theorem NilBox.below {w w' : World} {b : Nat} (h : NilBox w b) (hb : Below w.heap.size w w') : NilBox w' b := by unfold NilBox at *; rw [hb.block b (Array.getElem?_eq_some_iff.1 h).1]; exact h
theorem nilBox_new (w : World) : NilBox (w.alloc (.cells #[.slice none 0 0, .slice none 0 0] 72)) w.heap.size := by
  show (w.heap.push _)[w.heap.size]? = _
  exact Array.getElem?_push_size
theorem NilBox.at {w : World} {b : Nat} (h : NilBox w b) : b < w.heap.size ∧ w.cell? ⟨b, 0, none⟩ = some (.slice none 0 0) ∧ w.cell? ⟨b, 1, none⟩ = some (.slice none 0 0) ∧ w.frozen? ⟨b, 0, none⟩ = false ∧ w.frozen? ⟨b, 1, none⟩ = false := by
  have h' := h
  unfold NilBox at h
  exact ⟨(Array.getElem?_eq_some_iff.1 h).1, by simp [World.cell?, h], by simp [World.cell?, h], by simp [World.frozen?, h], by simp [World.frozen?, h]⟩
theorem NilBox.fill {w : World} {b : Nat} {mv av : Value} {s : SpaceL} (h : NilBox w b) (hs : Space w (.agg #[mv, av]) s) (hne : ∀ j, j < s.marks.length → markAt s.marks j ≠ []) :
    Space ((w.setCell ⟨b, 0, none⟩ mv).setCell ⟨b, 1, none⟩ av) (.agg #[mv, av]) s ∧ Box2 ((w.setCell ⟨b, 0, none⟩ mv).setCell ⟨b, 1, none⟩ av) b mv av ∧ Below b w ((w.setCell ⟨b, 0, none⟩ mv).setCell ⟨b, 1, none⟩ av) := by
  obtain ⟨h0, h1, h2, _, _⟩ := h.at
  have e1 : (w.setCell ⟨b, 0, none⟩ mv).cell? ⟨b, 1, none⟩ = some (.slice none 0 0) := by rw [World.cell?_setCell_other _ _ _ _ (by simp)]; exact h2
  refine ⟨space_putNil (space_putNil hs hne h1 mv) hne e1 av, ⟨by simpa [World.setCell] using h0, ?_, World.cell?_setCell_same _ _ _ e1⟩, ((Below.refl _ _).setCell (p := ⟨b, 0, none⟩) (Nat.le_refl _) _).setCell (p := ⟨b, 1, none⟩) (Nat.le_refl _) _⟩
  rw [World.cell?_setCell_other _ _ _ _ (by simp)]
  exact World.cell?_setCell_same _ _ _ h1

theorem graph_full {n : NetL} {m : List Int} {most : Int} (hm : m ≠ []) : ∀ j, j < (graphL n m most).1.marks.length → markAt (graphL n m most).1.marks j ≠ [] := by
  intro j hj e
  by_cases h : (graphL n m most).2 = 0
  · obtain ⟨_, _, hf, _, hF⟩ := graphL_ok (s := (graphL n m most).1) (by rw [← h])
    have h1 := hF.fits _ (markAt_mem hj)
    have h2 := (fits_net h1).2.1
    have h3 := (fits_net hf).2.1
    rw [e] at h2
    have : (m.length : Int) = 0 := by rw [h3, ← h2]; rfl
    exact hm (List.length_eq_zero_iff.1 (by omega))
  · rw [graphL_err h] at hj
    simp at hj

end Go.Proofs.YtffaamljogbmlaaDoor

/- Which places and transitions are behind a place, reckoned round by round. -/
namespace Go.Proofs.YtffaamljogbmlaaDoor
set_option linter.unusedVariables false
set_option maxRecDepth 4000

/-- What is known so far: of places, of transitions. -/
structure WayS where
  ps : Nat → Bool
  ts : Nat → Bool

/-- Does one of the first j places lead to a transition? -/
def leadTo (ps : Nat → Bool) (w : List Int) (b : Bool) : Nat → Bool
  | 0 => b
  | j + 1 => leadTo ps w b j || (ps j && decide (0 < nth w j))
/-- The first j places that a transition leads to. -/
def feedTo (ps : Nat → Bool) (w : List Int) (b : Bool) (j : Nat) : Nat → Bool := fun q => ps q || (decide (q < j) && (b && decide (0 < nth w q)))
def setAt (ts : Nat → Bool) (k : Nat) (b : Bool) : Nat → Bool := fun j => if j = k then b else ts j

def tranWay (n : NetL) (s : WayS) (k : Nat) : WayS :=
  ⟨feedTo s.ps (tranAt n.trans k).post (leadTo s.ps (tranAt n.trans k).pre (s.ts k) n.places.toNat) n.places.toNat, setAt s.ts k (leadTo s.ps (tranAt n.trans k).pre (s.ts k) n.places.toNat)⟩
def roundWay (n : NetL) (s : WayS) : Nat → WayS
  | 0 => s
  | k + 1 => tranWay n (roundWay n s k) k
def startWay (f : Nat) : WayS := ⟨fun q => decide (q = f), fun _ => false⟩
def waysTo (n : NetL) (f : Nat) : Nat → WayS
  | 0 => startWay f
  | r + 1 => roundWay n (waysTo n f r) n.trans.length
def waysL (n : NetL) (f : Nat) : WayS := waysTo n f (n.places.toNat + n.trans.length)

theorem lead_mono {ps : Nat → Bool} {w : List Int} {b : Bool} (h : b = true) (j : Nat) : leadTo ps w b j = true := by
  induction j with
  | zero => exact h
  | succ j ih => unfold leadTo; rw [ih]; rfl
theorem lead_iff {ps : Nat → Bool} {w : List Int} {b : Bool} (j : Nat) : leadTo ps w b j = true ↔ b = true ∨ ∃ q, q < j ∧ ps q = true ∧ 0 < nth w q := by
  induction j with
  | zero => simp [leadTo]
  | succ j ih =>
    unfold leadTo
    rw [Bool.or_eq_true, ih, Bool.and_eq_true, decide_eq_true_eq]
    constructor
    · rintro ((h | ⟨q, h1, h2⟩) | ⟨h1, h2⟩)
      · exact .inl h
      · exact .inr ⟨q, by omega, h2⟩
      · exact .inr ⟨j, by omega, h1, h2⟩
    · rintro (h | ⟨q, h1, h2⟩)
      · exact .inl (.inl h)
      · by_cases e : q = j
        · subst e; exact .inr h2
        · exact .inl (.inr ⟨q, by omega, h2⟩)
theorem feed_iff {ps : Nat → Bool} {w : List Int} {b : Bool} {j q : Nat} : feedTo ps w b j q = true ↔ ps q = true ∨ (q < j ∧ b = true ∧ 0 < nth w q) := by
  unfold feedTo
  rw [Bool.or_eq_true, Bool.and_eq_true, Bool.and_eq_true, decide_eq_true_eq, decide_eq_true_eq]

/-- Nothing that was known is lost. -/
structure WayLe (s u : WayS) : Prop where
  ps : ∀ q, s.ps q = true → u.ps q = true
  ts : ∀ k, s.ts k = true → u.ts k = true
theorem WayLe.refl (s : WayS) : WayLe s s := ⟨fun _ h => h, fun _ h => h⟩
theorem WayLe.trans {s u v : WayS} (h : WayLe s u) (k : WayLe u v) : WayLe s v := ⟨fun q h1 => k.ps q (h.ps q h1), fun q h1 => k.ts q (h.ts q h1)⟩
theorem WayLe.eq {s u : WayS} (h : WayLe s u) (k : WayLe u s) : s = u := by
  cases s with
  | mk p t =>
    cases u with
    | mk p2 t2 =>
      have e1 : p = p2 := by funext q; rw [Bool.eq_iff_iff]; exact ⟨h.ps q, k.ps q⟩
      have e2 : t = t2 := by funext q; rw [Bool.eq_iff_iff]; exact ⟨h.ts q, k.ts q⟩
      rw [e1, e2]
theorem tran_le (n : NetL) (s : WayS) (k : Nat) : WayLe s (tranWay n s k) := by
  refine ⟨fun q h => feed_iff.2 (.inl h), fun j h => ?_⟩
  show setAt s.ts k _ j = true
  unfold setAt
  split
  · rename_i e; subst e; exact lead_mono h _
  · exact h
theorem round_le (n : NetL) (s : WayS) : ∀ k, WayLe s (roundWay n s k)
  | 0 => WayLe.refl s
  | k + 1 => (round_le n s k).trans (tran_le n _ k)

/-- What is known is so. -/
structure WaySound (n : NetL) (f : Nat) (s : WayS) : Prop where
  ps : ∀ q, s.ps q = true → WayP n f q
  ts : ∀ k, k < n.trans.length → s.ts k = true → WayT n f k
theorem sound_start (n : NetL) (f : Nat) : WaySound n f (startWay f) := by
  refine ⟨fun q h => ?_, fun k _ h => by cases h⟩
  have : q = f := of_decide_eq_true h
  subst this; exact WayP.here n q
theorem sound_tran {n : NetL} {f : Nat} {s : WayS} (h : WaySound n f s) {k : Nat} (hk : k < n.trans.length) : WaySound n f (tranWay n s k) := by
  have hb : leadTo s.ps (tranAt n.trans k).pre (s.ts k) n.places.toNat = true → WayT n f k := fun q => by
    rcases (lead_iff _).1 q with q | ⟨a, h1, h2, h3⟩
    · exact h.ts k hk q
    · exact ⟨a, h.ps a h2, by omega⟩
  refine ⟨fun q hq => ?_, fun j hj hq => ?_⟩
  · rcases feed_iff.1 hq with q1 | ⟨h1, h2, h3⟩
    · exact h.ps q q1
    · obtain ⟨a, h4, h5⟩ := hb h2
      exact h4.step hk h5 (by omega)
  · have hq : setAt s.ts k _ j = true := hq
    unfold setAt at hq
    split at hq
    · rename_i e; subst e; exact hb hq
    · exact h.ts j hj hq
theorem sound_round {n : NetL} {f : Nat} {s : WayS} (h : WaySound n f s) : ∀ k, k ≤ n.trans.length → WaySound n f (roundWay n s k)
  | 0, _ => h
  | k + 1, hk => sound_tran (sound_round h k (by omega)) (by omega)
theorem sound_ways (n : NetL) (f : Nat) : ∀ r, WaySound n f (waysTo n f r)
  | 0 => sound_start n f
  | r + 1 => sound_round (sound_ways n f r) _ (Nat.le_refl _)

/-- How much is not known yet. -/
def gapOf (g : Nat → Bool) (k : Nat) : Nat := ((List.range k).filter fun j => !g j).length
theorem gap_zero (g : Nat → Bool) : gapOf g 0 = 0 := rfl
theorem gap_succ (g : Nat → Bool) (k : Nat) : gapOf g (k + 1) = gapOf g k + (if g k = true then 0 else 1) := by
  unfold gapOf
  rw [List.range_succ, List.filter_append, List.length_append]
  congr 1
  cases h : g k <;> simp [h]
theorem gap_le (g : Nat → Bool) (k : Nat) : gapOf g k ≤ k := by
  induction k with
  | zero => exact Nat.le_refl _
  | succ k ih => rw [gap_succ]; split <;> omega
theorem gap_some {g : Nat → Bool} {k j : Nat} (hj : j < k) (h : g j = true) : gapOf g k + 1 ≤ k := by
  induction k with
  | zero => omega
  | succ k ih =>
    rw [gap_succ]
    by_cases e : j = k
    · subst e; rw [if_pos h]; have := gap_le g j; omega
    · have := ih (by omega)
      split <;> omega
theorem gap_mono {g h : Nat → Bool} (hm : ∀ j, g j = true → h j = true) (k : Nat) : gapOf h k ≤ gapOf g k := by
  induction k with
  | zero => exact Nat.le_refl _
  | succ k ih =>
    rw [gap_succ, gap_succ]
    have := hm k
    by_cases e : g k = true
    · rw [if_pos e, if_pos (this e)]; exact ih
    · rw [if_neg e]; split <;> omega
theorem gap_same {g h : Nat → Bool} (hm : ∀ j, g j = true → h j = true) (k : Nat) (he : gapOf g k ≤ gapOf h k) : ∀ j, j < k → h j = true → g j = true := by
  induction k with
  | zero => intro j hj; omega
  | succ k ih =>
    rw [gap_succ, gap_succ] at he
    have hk := gap_mono hm k
    intro j hj hh
    by_cases e : j = k
    · subst e
      by_cases q : g j = true
      · exact q
      · rw [if_neg q, if_pos hh] at he; omega
    · refine ih ?_ j (by omega) hh
      by_cases q : g k = true
      · rw [if_pos q, if_pos (hm k q)] at he; omega
      · rw [if_neg q] at he; split at he <;> omega

theorem tran_out (n : NetL) (s : WayS) (k : Nat) : (∀ q, n.places.toNat ≤ q → (tranWay n s k).ps q = s.ps q) ∧ (∀ j, j ≠ k → (tranWay n s k).ts j = s.ts j) := by
  refine ⟨fun q hq => ?_, fun j hj => ?_⟩
  · show feedTo _ _ _ _ q = _
    unfold feedTo
    rw [decide_eq_false (by omega)]
    simp
  · show setAt _ _ _ j = _
    unfold setAt
    rw [if_neg hj]
theorem round_out (n : NetL) (s : WayS) : ∀ k, (∀ q, n.places.toNat ≤ q → (roundWay n s k).ps q = s.ps q) ∧ (∀ j, k ≤ j → (roundWay n s k).ts j = s.ts j)
  | 0 => ⟨fun _ _ => rfl, fun _ _ => rfl⟩
  | k + 1 => by
    obtain ⟨h1, h2⟩ := round_out n s k
    obtain ⟨h3, h4⟩ := tran_out n (roundWay n s k) k
    exact ⟨fun q hq => (h3 q hq).trans (h1 q hq), fun j hj => (h4 j (by omega)).trans (h2 j (by omega))⟩

def gapW (n : NetL) (s : WayS) : Nat := gapOf s.ps n.places.toNat + gapOf s.ts n.trans.length
/-- A round that tells nothing new changes nothing. -/
theorem round_same {n : NetL} {s : WayS} (h : gapW n s ≤ gapW n (roundWay n s n.trans.length)) : roundWay n s n.trans.length = s := by
  have hle := round_le n s n.trans.length
  have m1 := gap_mono hle.ps n.places.toNat
  have m2 := gap_mono hle.ts n.trans.length
  unfold gapW at h
  obtain ⟨o1, o2⟩ := round_out n s n.trans.length
  refine (hle.eq ⟨fun q hq => ?_, fun k hk => ?_⟩).symm
  · by_cases e : q < n.places.toNat
    · exact gap_same hle.ps n.places.toNat (by omega) q e hq
    · rw [← o1 q (by omega)]; exact hq
  · by_cases e : k < n.trans.length
    · exact gap_same hle.ts n.trans.length (by omega) k e hk
    · rw [← o2 k (by omega)]; exact hk
theorem round_end (n : NetL) (f : Nat) (hf : f < n.places.toNat) : ∀ r, roundWay n (waysTo n f r) n.trans.length = waysTo n f r ∨ gapW n (waysTo n f r) + r + 1 ≤ n.places.toNat + n.trans.length
  | 0 => by
    right
    have h1 := gap_some (g := (startWay f).ps) (k := n.places.toNat) (j := f) hf (decide_eq_true rfl)
    have h2 := gap_le (startWay f).ts n.trans.length
    show gapOf _ _ + gapOf _ _ + 0 + 1 ≤ _
    show gapOf (startWay f).ps n.places.toNat + gapOf (startWay f).ts n.trans.length + 0 + 1 ≤ _
    omega
  | r + 1 => by
    rcases round_end n f hf r with h | h
    · left
      show roundWay n (roundWay n (waysTo n f r) n.trans.length) n.trans.length = roundWay n (waysTo n f r) n.trans.length
      rw [h, h]
    · by_cases e : gapW n (waysTo n f r) ≤ gapW n (roundWay n (waysTo n f r) n.trans.length)
      · left
        have h1 := round_same e
        show roundWay n (roundWay n (waysTo n f r) n.trans.length) n.trans.length = roundWay n (waysTo n f r) n.trans.length
        rw [h1, h1]
      · right
        show gapW n (roundWay n (waysTo n f r) n.trans.length) + (r + 1) + 1 ≤ _
        omega
theorem ways_stable (n : NetL) (f : Nat) (hf : f < n.places.toNat) : roundWay n (waysL n f) n.trans.length = waysL n f := by
  rcases round_end n f hf (n.places.toNat + n.trans.length) with h | h
  · exact h
  · omega
/-- Where a round changes nothing, no transition does. -/
theorem stable_tran {n : NetL} {s : WayS} (h : roundWay n s n.trans.length = s) {k : Nat} (hk : k < n.trans.length) : tranWay n s k = s := by
  have up : ∀ j d, WayLe (roundWay n s j) (roundWay n s (j + d)) := by
    intro j d
    induction d with
    | zero => exact WayLe.refl _
    | succ d ih => exact ih.trans (tran_le n _ _)
  have at_ : ∀ j, j ≤ n.trans.length → roundWay n s j = s := by
    intro j hj
    have h1 := up j (n.trans.length - j)
    rw [show j + (n.trans.length - j) = n.trans.length by omega, h] at h1
    exact (h1.eq (round_le n s j))
  have h1 := at_ (k + 1) (by omega)
  have h2 := at_ k (by omega)
  have h3 : roundWay n s (k + 1) = tranWay n (roundWay n s k) k := rfl
  rw [h2] at h3
  rw [← h3, h1]
theorem ways_le (n : NetL) (f : Nat) : ∀ r, WayLe (startWay f) (waysTo n f r)
  | 0 => WayLe.refl _
  | r + 1 => (ways_le n f r).trans (round_le n _ _)

/-- All that is behind a place is known in the end. -/
theorem ways_iff {n : NetL} (hn : netOk n = true) {f : Nat} (hf : (f : Int) < n.places) : (∀ q, (waysL n f).ps q = true ↔ WayP n f q) ∧ (∀ k, k < n.trans.length → ((waysL n f).ts k = true ↔ WayT n f k)) := by
  have hs := ways_stable n f (by omega)
  have hsd := sound_ways n f (n.places.toNat + n.trans.length)
  have lead : ∀ k a, k < n.trans.length → (waysL n f).ps a = true → nth (tranAt n.trans k).pre a ≠ 0 → (waysL n f).ts k = true := by
    intro k a hk ha h0
    have e := congrArg WayS.ts (stable_tran hs hk)
    have e2 := congrFun e k
    have e3 : (tranWay n (waysL n f) k).ts k = leadTo (waysL n f).ps (tranAt n.trans k).pre ((waysL n f).ts k) n.places.toNat := by
      show setAt _ _ _ k = _
      unfold setAt
      rw [if_pos rfl]
    rw [← e2, e3, lead_iff]
    have hl := (tran_length hn hk).1
    have hb := (okTok_nth (tran_right (net_tran hn hk)).1 a).1
    refine .inr ⟨a, ?_, ha, by omega⟩
    rcases Nat.lt_or_ge a (tranAt n.trans k).pre.length with q | q
    · omega
    · exact absurd (nth_past _ _ q) h0
  have feed : ∀ k b, k < n.trans.length → (waysL n f).ts k = true → nth (tranAt n.trans k).post b ≠ 0 → (waysL n f).ps b = true := by
    intro k b hk ht h0
    have e := congrArg WayS.ps (stable_tran hs hk)
    have e2 := congrFun e b
    rw [← e2]
    have hl := (tran_length hn hk).2
    have hb := (okTok_nth (tran_right (net_tran hn hk)).2 b).1
    refine feed_iff.2 (.inr ⟨?_, lead_mono ht _, by omega⟩)
    rcases Nat.lt_or_ge b (tranAt n.trans k).post.length with q | q
    · omega
    · exact absurd (nth_past _ _ q) h0
  have full : ∀ q, WayP n f q → (waysL n f).ps q = true := fun q hq =>
    hq (fun q => (waysL n f).ps q = true) ((ways_le n f _).ps f (decide_eq_true rfl)) fun k a b hk ha h1 h2 => feed k b hk (lead k a hk ha h1) h2
  refine ⟨fun q => ⟨hsd.ps q, full q⟩, fun k hk => ⟨hsd.ts k hk, ?_⟩⟩
  rintro ⟨a, h1, h2⟩
  exact lead k a hk (full a h1) h2

end Go.Proofs.YtffaamljogbmlaaDoor
