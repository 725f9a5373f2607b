import Derived.Test.YteoofibhpifmlaaDoorNet2
import Derived.Test.YteoofibhpifmlaaDoorOwnT
/- The answers of the document itself for nets: the other way round. -/
namespace Go.Proofs.YteoofibhpifmlaaDoor
open Go.RowKit
set_option linter.unusedVariables false
set_option maxRecDepth 4000

def turnT (t : TranL) : TranL := ⟨t.label, t.post, t.pre⟩
def turnL (n : NetL) : NetL := ⟨n.places, n.trans.map turnT⟩
theorem turn_at (ts : List TranL) (j : Nat) (h : j < ts.length) : tranAt (ts.map turnT) j = turnT (tranAt ts j) := by
  simp [tranAt, List.getD, List.getElem?_map, List.getElem?_eq_getElem h]

/-- The first of them, turned, as cells. -/
def TurnedTo (w : World) (ts : List TranL) (tv : List (Int × Value × Value)) : Prop :=
  ∀ j (hj : j < tv.length), tv[j].1 = (tranAt ts j).label ∧ Ints w tv[j].2.1 (tranAt ts j).post ∧ Ints w tv[j].2.2 (tranAt ts j).pre
theorem TurnedTo.nil (w : World) (ts : List TranL) : TurnedTo w ts [] := fun j hj => absurd hj (by simp)
theorem TurnedTo.snoc {w : World} {ts : List TranL} {tv : List (Int × Value × Value)} (h : TurnedTo w ts tv) {l : Int} {c1 c2 : Value}
    (hl : l = (tranAt ts tv.length).label) (h1 : Ints w c1 (tranAt ts tv.length).post) (h2 : Ints w c2 (tranAt ts tv.length).pre) : TurnedTo w ts (tv ++ [(l, c1, c2)]) := by
  intro j hj
  by_cases hjl : j < tv.length
  · rw [List.getElem_append_left hjl]; exact h j hjl
  · have e : j = tv.length := by simp at hj; omega
    subst e
    rw [List.getElem_append_right (Nat.le_refl _)]
    simp only [Nat.sub_self, List.getElem_cons_zero]
    exact ⟨hl, h1, h2⟩

set_option maxHeartbeats 1000000 in
theorem bturned_any (v : Value) (n : NetL) (w : World) (hv : Net w v n) :
    Calls Tryd.prog 63 #[v] w fun e w' => ∃ r, e = .returned r ∧ Net w' r (turnL n) ∧ Below w.heap.size w w' := by
  obtain ⟨tv, rfl, hT⟩ := hv
  obtain ⟨a, len, cap, rfl, hlen, hmx, hsh, hr⟩ := id hT
  have b1 := below_new w (.cells #[.int .i64 n.places, .slice a len cap] 24)
  have b2 := below_new (w.alloc (.cells #[.int .i64 n.places, .slice a len cap] 24)) (.cells #[.int .i64 0, .slice none 0 0] 24)
  have hbx := (box2_new w (.int .i64 n.places) (.slice a len cap) 24).below b2
  have b3 := below_then b1 b2
  have hT2 := hT.below b3
  have hrs : ∀ wr, Below ((w.alloc (.cells #[.int .i64 n.places, .slice a len cap] 24)).alloc (.cells #[.int .i64 0, .slice none 0 0] 24)).heap.size ((w.alloc (.cells #[.int .i64 n.places, .slice a len cap] 24)).alloc (.cells #[.int .i64 0, .slice none 0 0] 24)) wr →
      wr.cell? ⟨w.heap.size + 1, 0, none⟩ = some (.int .i64 0) ∧ wr.cell? ⟨w.heap.size + 1, 1, none⟩ = some (.slice none 0 0) ∧ wr.frozen? ⟨w.heap.size + 1, 0, none⟩ = false ∧ wr.frozen? ⟨w.heap.size + 1, 1, none⟩ = false ∧ w.heap.size + 1 < wr.heap.size := by
    intro wr hb
    have hlt : w.heap.size + 1 < ((w.alloc (.cells #[.int .i64 n.places, .slice a len cap] 24)).alloc (.cells #[.int .i64 0, .slice none 0 0] 24)).heap.size := by simp
    refine ⟨?_, ?_, ?_, ?_, Nat.lt_of_lt_of_le hlt hb.size⟩
    · rw [hb.cell (p := ⟨w.heap.size + 1, 0, none⟩) hlt, World.cell?_alloc_at _ _ _ _ (by simp)]; rfl
    · rw [hb.cell (p := ⟨w.heap.size + 1, 1, none⟩) hlt, World.cell?_alloc_at _ _ _ _ (by simp)]; rfl
    · rw [hb.frozen (p := ⟨w.heap.size + 1, 0, none⟩) hlt, World.frozen?_alloc_at _ _ _ _ (by simp)]
    · rw [hb.frozen (p := ⟨w.heap.size + 1, 1, none⟩) hlt, World.frozen?_alloc_at _ _ _ _ (by simp)]
  have Hrs : Hid _ := hrs
  obtain ⟨W0, HW0⟩ : ∃ W0, Hid (((w.alloc (.cells #[.int .i64 n.places, .slice a len cap] 24)).alloc (.cells #[.int .i64 0, .slice none 0 0] 24)) = W0) := ⟨_, rfl⟩
  rw [HW0.out] at Hrs hbx b3 hT2
  clear hrs b1 b2 hr
  go_enter Tryd.func63, Tryd.ntmps63
  go_wp2_with fail
  rw [HW0.out]
  clear HW0
  go_loopg [3, 9] len (fun g o i wr => ∃ (k : Nat) (tv : List (Int × Value × Value)), k + g = len ∧ i = .int .i64 k ∧ tv.length = k ∧ OwnT W0.heap.size W0 wr o tv ∧ TurnedTo w n.trans tv)
  case atStart => exact ⟨0, [], by omega, rfl, rfl, OwnT.nil_of (Below.refl _ _) (Nat.le_refl _), TurnedTo.nil _ _⟩
  case round =>
    obtain ⟨k, tv, hkg, rfl, hk, hG, hTT⟩ := hrel
    have HTT : Hid _ := hTT
    have Hk : Hid (tv.length = k) := hk
    clear hTT hk
    by_cases hkn : k < len
    · obtain ⟨b, off, c1, c2, rfl, hblt, h0, h1, h2, i1, i2⟩ := hT.at hkn
      have hblt2 := Nat.lt_of_lt_of_le hblt b3.size
      have hbw := below_then b3 hG.2.1
      obtain ⟨a1, l1, p1, rfl, _, _, _, _⟩ := id i1
      obtain ⟨a2, l2, p2, rfl, _, _, _, _⟩ := id i2
      have h0' := (hbw.cell (p := ⟨b, _, none⟩) hblt).trans h0
      have h1' := (hbw.cell (p := ⟨b, _, none⟩) hblt).trans h1
      have h2' := (hbw.cell (p := ⟨b, _, none⟩) hblt).trans h2
      have hbn := below_new wr (.cells #[.int .i64 (tranAt n.trans k).label, .slice a1 l1 p1, .slice a2 l2 p2] 37)
      have hG1 := hG.trans hbn
      have RT : TurnedTo w n.trans (tv ++ [((tranAt n.trans k).label, .slice a2 l2 p2, .slice a1 l1 p1)]) :=
        TurnedTo.snoc HTT.out (by rw [Hk.out]) (by rw [Hk.out]; exact i2) (by rw [Hk.out]; exact i1)
      have HRT : Hid _ := RT
      clear RT h0 h1 h2 i1 i2 hG hbw
      generalize tranAt n.trans k = t at *
      go_wp2_with (at_builtin; refine wp_append_tran rfl _ _ rfl W0.heap.size W0 _ _ tv t.label a2 a1 l2 l1 p2 p1 _ hG1 (by rfl) (by rfl) (by simp) (by have := Hk.out; omega) ?_; intro v' w2 hG2)
      have R := hG2
      clear hG1 hG2 hbn h0' h1' h2'
      go_wp2
      go_roundg (gk - 1)
      case measure => omega
      case rel => exact ⟨k + 1, _, by omega, by go_num, by have := Hk.out; simp [this], R, HRT.out⟩
    · obtain ⟨hx0, hx1, hx2⟩ := hbx.below hG.2.1
      obtain ⟨q1, q2, q3, q4, q5⟩ := Hrs.out _ hG.2.1
      have hr0 : w.heap.size + 1 < W0.heap.size := (Hrs.out _ (Below.refl _ _)).2.2.2.2
      obtain ⟨hown, hbG, hBG⟩ := hG
      have hb4 := below_then b3 hbG
      have hsh2 : ∃ ax lx cx, u3 = .slice ax lx cx := by
        obtain ⟨_, hcase⟩ := hown
        rcases hcase with ⟨rfl, _⟩ | ⟨g, cap', cur, rfl, _⟩
        · exact ⟨_, _, _, rfl⟩
        · exact ⟨_, _, _, rfl⟩
      obtain ⟨ax, lx, cx, rfl⟩ := hsh2
      have hb5 : Below w.heap.size w ((wr.setCell ⟨w.heap.size + 1, 0, none⟩ (.int .i64 n.places)).setCell ⟨w.heap.size + 1, 1, none⟩ (.slice ax lx cx)) :=
        (hb4.setCell (p := ⟨w.heap.size + 1, 0, none⟩) (by simp) _).setCell (p := ⟨w.heap.size + 1, 1, none⟩) (by simp) _
      have hown2 := ownsRow_setCell_below (ownsRow_setCell_below hown (a := ⟨w.heap.size + 1, 0, none⟩) hr0 (.int .i64 n.places)) (a := ⟨w.heap.size + 1, 1, none⟩) hr0 (.slice ax lx cx)
      have hTr := tran_read (ts := (turnL n).trans) hown2 (by have := Hk.out; omega) (by have := Hk.out; simp [turnL]; omega) (fun j hj => by
        obtain ⟨e1, e2, e3⟩ := HTT.out j hj
        have hjl : j < n.trans.length := by have := Hk.out; omega
        have ea : tranAt (turnL n).trans j = turnT (tranAt n.trans j) := turn_at _ _ hjl
        rw [ea]
        exact ⟨e1, e2.below hb5, e3.below hb5⟩)
      have HTr : Hid _ := hTr
      have Hb5 : Hid _ := hb5
      clear hTr hb5 hown hown2
      go_wp2_with fail
      refine bodyPost_ret (v := .agg #[.int .i64 n.places, .slice ax lx cx]) ?_ rfl ⟨_, rfl, ⟨_, rfl, HTr.out⟩, Hb5.out⟩
      simp [results, Tryd.results63, go_sem, q1, q2]

end Go.Proofs.YteoofibhpifmlaaDoor

/- Whether two nets are the same, as the document itself asks it. -/
namespace Go.Proofs.YteoofibhpifmlaaDoor
open Go.RowKit
set_option linter.unusedVariables false
set_option maxRecDepth 4000

def sameT (t u : TranL) : Bool := (t.label == u.label) && (t.pre == u.pre) && (t.post == u.post)
def sameTo (ts us : List TranL) (k : Nat) : Bool := (List.range k).all fun j => sameT (tranAt ts j) (tranAt us j)
def sameTs (ts us : List TranL) : Bool := (ts.length == us.length) && sameTo ts us ts.length
def sameN (n m : NetL) : Bool := (n.places == m.places) && sameTs n.trans m.trans

theorem sameTo_succ (ts us : List TranL) (k : Nat) : sameTo ts us (k + 1) = (sameTo ts us k && sameT (tranAt ts k) (tranAt us k)) := by
  unfold sameTo; rw [List.range_succ, List.all_append]; simp
theorem sameTo_false (ts us : List TranL) (n k : Nat) (h : k < n) (hf : sameT (tranAt ts k) (tranAt us k) = false) : sameTo ts us n = false := by
  unfold sameTo; rw [List.all_eq_false]; exact ⟨k, by simpa using h, by simp [hf]⟩

theorem Trans.get {w : World} {v : Value} {ts : List TranL} (h : Trans w v ts) : ∃ a len cap, v = .slice a len cap ∧ ts.length = len ∧ len ≤ 2513169434916 := by
  obtain ⟨a, len, cap, e, hl, hm, _, _⟩ := h; exact ⟨a, len, cap, e, hl, hm⟩

end Go.Proofs.YteoofibhpifmlaaDoor
