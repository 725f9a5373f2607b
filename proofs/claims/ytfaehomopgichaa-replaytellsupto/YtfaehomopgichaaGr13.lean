import Derived.Test.YtfaehomopgichaaGr05
import Derived.Test.YtfaehomopgichaaMarked
import Derived.Test.YtfaehomopgichaaGr01
import Derived.Test.YtfaehomopgichaaGr00
import Derived.Test.YtfaehomopgichaaGr03
/- Package replay as it landed: a game that goes on. -/
namespace Go.Proofs.Ytfaehomopgichaa
open Go.RowKit
set_option linter.unusedVariables false
set_option linter.unusedSimpArgs false
set_option maxRecDepth 4000

def gameA (p : PlayL) (R P : Nat) : Array Value := #[.int .i64 p.put, .int .i64 p.taken, .int .i64 p.lacked, .int .i64 p.left, .slice (some ⟨R, 0, none⟩) P P]
/-- A game in memory: its box, and the row of what is there. -/
structure GameAt (B R P : Nat) (w : World) (g : GameL) : Prop where
  box : w.heap[B]? = some (.cells (gameA g.pl R P) 43 (0, 0))
  cells : ∀ j, j < P → w.cell? ⟨R, j, none⟩ = some (.int .i64 (g.there j))
  frozen : ∀ j, j < P → w.frozen? ⟨R, j, none⟩ = false
  ne : B ≠ R
  lt : R < w.heap.size

theorem blk_lt {w : World} {b : Nat} {o : Obj} (h : w.heap[b]? = some o) : b < w.heap.size := (Array.getElem?_eq_some_iff.1 h).1
theorem blk_cell {w : World} {b k : Nat} {cs : Array Value} {t : TypeId} {v : Value} (h : w.heap[b]? = some (.cells cs t (0, 0))) (hk : cs[k]? = some v) : w.cell? ⟨b, k, none⟩ = some v := by
  simp [World.cell?, h, hk]
theorem blk_free {w : World} {b k : Nat} {cs : Array Value} {t : TypeId} (h : w.heap[b]? = some (.cells cs t (0, 0))) : w.frozen? ⟨b, k, none⟩ = false := by
  simp [World.frozen?, h]

theorem GameAt.at {B R P : Nat} {w : World} {g : GameL} (h : GameAt B R P w g) :
    w.cell? ⟨B, 0, none⟩ = some (.int .i64 g.pl.put) ∧ w.cell? ⟨B, 1, none⟩ = some (.int .i64 g.pl.taken) ∧ w.cell? ⟨B, 2, none⟩ = some (.int .i64 g.pl.lacked) ∧ w.cell? ⟨B, 3, none⟩ = some (.int .i64 g.pl.left) ∧ w.cell? ⟨B, 4, none⟩ = some (.slice (some ⟨R, 0, none⟩) P P) ∧
    w.frozen? ⟨B, 0, none⟩ = false ∧ w.frozen? ⟨B, 1, none⟩ = false ∧ w.frozen? ⟨B, 2, none⟩ = false ∧ w.frozen? ⟨B, 3, none⟩ = false :=
  ⟨blk_cell h.box rfl, blk_cell h.box rfl, blk_cell h.box rfl, blk_cell h.box rfl, blk_cell h.box rfl, blk_free h.box, blk_free h.box, blk_free h.box, blk_free h.box⟩
theorem GameAt.fld {B R P k : Nat} {w : World} {g : GameL} {u : Value} {p' : PlayL} (h : GameAt B R P w g) (e : (gameA g.pl R P).setIfInBounds k u = gameA p' R P) : GameAt B R P (w.setCell ⟨B, k, none⟩ u) ⟨p', g.there⟩ := by
  refine ⟨by rw [setCell_blockM h.box, e], fun j hj => ?_, fun j hj => by rw [World.frozen?_setCell]; exact h.frozen j hj, h.ne, by simpa [World.setCell] using h.lt⟩
  rw [World.cell?_setCell_other _ _ _ _ (by intro q; injection q with q1 _; exact h.ne q1)]
  exact h.cells j hj
theorem GameAt.row {B R P k : Nat} {w : World} {g : GameL} {x : Int} (h : GameAt B R P w g) (hk : k < P) : GameAt B R P (w.setCell ⟨R, k, none⟩ (.int .i64 x)) ⟨g.pl, fun p => if p = k then x else g.there p⟩ := by
  refine ⟨by rw [Below.heap_setCell w ⟨R, k, none⟩ _ B h.ne]; exact h.box, fun j hj => ?_, fun j hj => by rw [World.frozen?_setCell]; exact h.frozen j hj, h.ne, by simpa [World.setCell] using h.lt⟩
  by_cases e : j = k
  · subst e; rw [World.cell?_setCell_same _ _ _ (h.cells j hj)]; simp
  · rw [World.cell?_setCell_other _ _ _ _ (by intro q; apply e; injection q with _ q2; exact q2.symm), h.cells j hj]; simp [e]
theorem GameAt.same {B R P : Nat} {w : World} {g g' : GameL} (h : GameAt B R P w g) (e : g'.pl = g.pl) (e2 : ∀ j, j < P → g'.there j = g.there j) : GameAt B R P w g' :=
  ⟨by rw [e]; exact h.box, fun j hj => by rw [e2 j hj]; exact h.cells j hj, h.frozen, h.ne, h.lt⟩
theorem GameAt.to {B R P : Nat} {w w' : World} {g : GameL} (h : GameAt B R P w g) (hb : Below w.heap.size w w') : GameAt B R P w' g :=
  ⟨(hb.block B (blk_lt h.box)).trans h.box, fun j hj => by rw [hb.cell (p := ⟨R, j, none⟩) h.lt]; exact h.cells j hj, fun j hj => by rw [hb.frozen (p := ⟨R, j, none⟩) h.lt]; exact h.frozen j hj, h.ne, Nat.lt_of_lt_of_le h.lt hb.size⟩
/-- Two blocks alone may have turned. -/
structure Two (B R : Nat) (w w' : World) : Prop where
  below : Below (min B R) w w'
  block : ∀ k, k < w.heap.size → k ≠ B → k ≠ R → w'.heap[k]? = w.heap[k]?
theorem Two.size {B R : Nat} {w w' : World} (h : Two B R w w') : w.heap.size ≤ w'.heap.size := h.below.size
theorem Two.trans {B R : Nat} {a c d : World} (h : Two B R a c) (k : Two B R c d) : Two B R a d := ⟨h.below.trans k.below, fun i hi h1 h2 => (k.block i (Nat.lt_of_lt_of_le hi h.size) h1 h2).trans (h.block i hi h1 h2)⟩
theorem Two.setL (B R off : Nat) (w : World) (u : Value) : Two B R w (w.setCell ⟨B, off, none⟩ u) := ⟨(Below.refl _ _).setCell (p := ⟨B, off, none⟩) (Nat.min_le_left _ _) u, fun k _ hne _ => Below.heap_setCell w ⟨B, off, none⟩ u k (fun e => hne e)⟩
theorem Two.setR (B R off : Nat) (w : World) (u : Value) : Two B R w (w.setCell ⟨R, off, none⟩ u) := ⟨(Below.refl _ _).setCell (p := ⟨R, off, none⟩) (Nat.min_le_right _ _) u, fun k _ _ hne => Below.heap_setCell w ⟨R, off, none⟩ u k (fun e => hne e)⟩
theorem Two.refl (B R : Nat) (w : World) : Two B R w w := ⟨Below.refl _ _, fun _ _ _ _ => rfl⟩
/-- What is older than both stands. -/
theorem Two.low {B R n : Nat} {a w w' : World} (h : Two B R w w') (hb : Below n a w) (h1 : n ≤ B) (h2 : n ≤ R) : Below n a w' := hb.trans (h.below.mono (by omega))
theorem Two.on {B R : Nat} {w w' : World} {D : Nat → Prop} {Q : World → Prop} (h : Two B R w w') (hO : On D w Q) (h1 : ¬ D B) (h2 : ¬ D R) : On D w' Q :=
  hO.to h.size fun k hk hD => h.block k hk (fun e => h1 (e ▸ hD)) (fun e => h2 (e ▸ hD))

/-- One place's tokens are moved. -/
def moveG (g : GameL) (p : Nat) (z : Int) : GameL := ⟨⟨g.pl.put, g.pl.taken, g.pl.lacked, g.pl.left + z⟩, fun q => if q = p then g.there p + z else g.there q⟩

set_option maxHeartbeats 1000000 in
theorem move_any (B R P p : Nat) (g : GameL) (z : Int) (w : World) (h : GameAt B R P w g) (hp : p < P) (hP : P ≤ 16) (h1 : 0 ≤ g.there p ∧ g.there p ≤ 1000000) (h2 : -1000000 ≤ g.pl.left ∧ g.pl.left ≤ 1000000) (h3 : -1000 ≤ z ∧ z ≤ 1000) :
    Calls Try.prog 26 #[.pointer (some ⟨B, 0, none⟩), .int .i64 (p : Int), .int .i64 z] w fun e w' => e = .returned (.tuple #[]) ∧ GameAt B R P w' (moveG g p z) ∧ Two B R w w' := by
  obtain ⟨x, Hx⟩ : ∃ x, Hid (g.there p = x) := ⟨_, rfl⟩
  have c := h.cells p hp
  have f := h.frozen p hp
  rw [Hx.out] at c h1
  obtain ⟨d0, d1, d2, d3, d4, f0, f1, f2, f3⟩ := h.at
  have hG1 := h.row (x := x + z) hp
  have hG2 := hG1.fld (k := 3) (u := .int .i64 (g.pl.left + z)) (p' := ⟨g.pl.put, g.pl.taken, g.pl.lacked, g.pl.left + z⟩) rfl
  have HR : Hid (GameAt B R P ((w.setCell ⟨R, p, none⟩ (.int .i64 (x + z))).setCell ⟨B, 3, none⟩ (.int .i64 (g.pl.left + z))) (moveG g p z)) := hG2.same rfl fun j _ => by
    show (if j = p then g.there p + z else g.there j) = if j = p then x + z else g.there j
    rw [Hx.out]
  have HO : Hid (Two B R w ((w.setCell ⟨R, p, none⟩ (.int .i64 (x + z))).setCell ⟨B, 3, none⟩ (.int .i64 (g.pl.left + z)))) := (Two.setR _ _ _ _ _).trans (Two.setL _ _ _ _ _)
  obtain ⟨_, _, _, e3, _, _, _, _, g3⟩ := hG1.at
  obtain ⟨L, HL⟩ : ∃ x, Hid (g.pl.left = x) := ⟨_, rfl⟩
  rw [HL.out] at HR HO d3 h2
  simp only [HL.out] at e3
  clear hG1 hG2 h HL Hx
  go_enter Try.func26, Try.ntmps26
  go_wp2
  go_end0
  exact ⟨rfl, HR.out, HO.out⟩

theorem putTo_next (g : GameL) (t : List Int) (k : Nat) (p : Nat) : (moveG ⟨⟨(putTo g t k).pl.put + nth t k, (putTo g t k).pl.taken, (putTo g t k).pl.lacked, (putTo g t k).pl.left⟩, (putTo g t k).there⟩ k (nth t k)).there p = (putTo g t (k + 1)).there p := by
  simp only [moveG, putTo]
  by_cases h1 : p = k
  · subst h1; simp
  · rw [if_neg h1]
    by_cases h2 : p < k
    · rw [if_pos h2, if_pos (by omega)]
    · rw [if_neg h2, if_neg (by omega)]
theorem takeTo_next (g : GameL) (t : List Int) (k : Nat) (p : Nat) : (moveG ⟨⟨(takeTo g t k).pl.put, (takeTo g t k).pl.taken + nth t k, (takeTo g t k).pl.lacked + lackG g.there t k, (takeTo g t k).pl.left⟩, (takeTo g t k).there⟩ k (lackG g.there t k - nth t k)).there p = (takeTo g t (k + 1)).there p := by
  simp only [moveG, takeTo]
  by_cases h1 : p = k
  · subst h1; simp
  · rw [if_neg h1]
    by_cases h2 : p < k
    · rw [if_pos h2, if_pos (by omega)]
    · rw [if_neg h2, if_neg (by omega)]
theorem putTo_bnd {P K : Nat} {g : GameL} {t : List Int} (h : BndG P K g) (hP : P ≤ 16) (hK : K ≤ 500) (ht : Toks P t) {k : Nat} (hk : k ≤ P) : 0 ≤ (putTo g t k).pl.put ∧ (putTo g t k).pl.put ≤ 80000 ∧ -80000 ≤ (putTo g t k).pl.left ∧ (putTo g t k).pl.left ≤ 80000 := by
  have a1 := ht.sum0 k
  have a2 := ht.sum1 (k := k) (by omega)
  have := h.put0; have := h.put1; have := h.tak0; have := h.tak1; have := h.lac0; have := h.lac1; have := h.sum
  have hle := sumTo_le (f := g.there) (g := fun _ => 4500) (k := P) fun j _ => by have := h.there1 j; omega
  rw [sumTo_const, ← h.left] at hle
  have hge : 0 ≤ sumTo g.there P := sumTo_nonneg fun j _ => h.there0 j
  rw [← h.left] at hge
  simp only [putTo]
  refine ⟨by omega, by omega, by omega, by omega⟩
theorem takeTo_bnd {P K : Nat} {g : GameL} {t : List Int} (h : BndG P K g) (hP : P ≤ 16) (hK : K ≤ 500) (ht : Toks P t) {k : Nat} (hk : k ≤ P) : 0 ≤ (takeTo g t k).pl.taken ∧ (takeTo g t k).pl.taken ≤ 80000 ∧ 0 ≤ (takeTo g t k).pl.lacked ∧ (takeTo g t k).pl.lacked ≤ 80000 ∧ -80000 ≤ (takeTo g t k).pl.left ∧ (takeTo g t k).pl.left ≤ 80000 := by
  have a1 := ht.sum0 k
  have a2 := ht.sum1 (k := k) (by omega)
  have a3 := lack_sum0 g.there t k
  have a4 := lack_sum1 ht h.there0 (k := k) (by omega)
  have := h.put0; have := h.put1; have := h.tak0; have := h.tak1; have := h.lac0; have := h.lac1; have := h.sum
  have hle := sumTo_le (f := g.there) (g := fun _ => 4500) (k := P) fun j _ => by have := h.there1 j; omega
  rw [sumTo_const, ← h.left] at hle
  have hge : 0 ≤ sumTo g.there P := sumTo_nonneg fun j _ => h.there0 j
  rw [← h.left] at hge
  have e1 : sumTo (fun p => lackG g.there t p - nth t p) k = sumTo (lackG g.there t) k - sumTo (nth t) k := sumTo_sub _ _ _
  simp only [takeTo]
  refine ⟨by omega, by omega, by omega, by omega, by omega, by omega⟩

set_option maxHeartbeats 2000000 in
theorem put_any (B R P K : Nat) (g : GameL) (v : Value) (t : List Int) (w : World) (h : GameAt B R P w g) (hP : P ≤ 16) (hb : BndG P K g) (hK : K ≤ 500) (ht : Toks P t) (hv : ∀ w', Two B R w w' → Ints w' v t) :
    Calls Try.prog 15 #[.pointer (some ⟨B, 0, none⟩), v] w fun e w' => e = .returned (.tuple #[]) ∧ GameAt B R P w' (putG g t) ∧ Two B R w w' := by
  obtain ⟨a, len, cap, rfl, hlen, hmx, hsh, _⟩ := hv w (Two.refl _ _ _)
  have Hv : Hid _ := hv
  have Hlen : Hid (t.length = len) := hlen
  have hlP : len = P := by rw [← hlen]; exact ht.len
  subst hlP
  have Ht : Hid _ := ht
  have Hb : Hid _ := hb
  clear hv hlen ht hb
  go_enter Try.func15, Try.ntmps15
  go_wp2_with fail
  go_loopg [8] len (fun gk i wr => ∃ k : Nat, k + gk = len ∧ i = .int .i64 k ∧ GameAt B R len wr (putTo g t k) ∧ Two B R w wr)
  case atStart => exact ⟨0, by omega, rfl, h.same (by simp [putTo, sumTo]) (fun j _ => by simp [putTo]), Two.refl _ _ _⟩
  case round =>
    obtain ⟨k, hkg, rfl, hG, hO⟩ := hrel
    by_cases hkn : k < len
    · obtain ⟨a', l', c', e, _, _, _, hr⟩ := Hv.out wr hO
      injection e with e1 e2 e3
      subst e1 e2 e3
      obtain ⟨b, off, rfl, hblt, hc⟩ := hr k (by rw [Hlen.out]; exact hkn)
      obtain ⟨z, Hz⟩ : ∃ z, Hid (nth t k = z) := ⟨_, rfl⟩
      have hz : 0 ≤ z ∧ z ≤ 9 := by rw [← Hz.out]; exact ⟨Ht.out.lo k, Ht.out.hi k⟩
      rw [Hz.out] at hc
      clear hr
      obtain ⟨b1, b2, b3, b4⟩ := putTo_bnd Hb.out hP hK Ht.out (k := k) (by omega)
      obtain ⟨d0, d1, d2, d3, d4, f0, f1, f2, f3⟩ := hG.at
      have hth : (putTo g t k).there k = g.there k := by simp [putTo]
      have t1 := Hb.out.there0 k
      have t2 := Hb.out.there1 k
      have hG1 := hG.fld (k := 0) (u := .int .i64 ((putTo g t k).pl.put + z)) (p' := ⟨(putTo g t k).pl.put + z, (putTo g t k).pl.taken, (putTo g t k).pl.lacked, (putTo g t k).pl.left⟩) rfl
      have HM := move_any B R len k _ z _ hG1 hkn hP (by show 0 ≤ (putTo g t k).there k ∧ (putTo g t k).there k ≤ 1000000; rw [hth]; omega) (by show -1000000 ≤ (putTo g t k).pl.left ∧ (putTo g t k).pl.left ≤ 1000000; omega) (by omega)
      have HR : Hid (∀ w', GameAt B R len w' (moveG ⟨⟨(putTo g t k).pl.put + z, (putTo g t k).pl.taken, (putTo g t k).pl.lacked, (putTo g t k).pl.left⟩, (putTo g t k).there⟩ k z) → GameAt B R len w' (putTo g t (k + 1))) := fun w' q => q.same (by
        rw [← Hz.out]; simp only [moveG, putTo, sumTo]; rw [Int.add_assoc, Int.add_assoc]) (fun j _ => by rw [← Hz.out]; exact (putTo_next g t k j).symm)
      have HO2 : Hid _ := Two.setL B R 0 wr (.int .i64 ((putTo g t k).pl.put + z))
      obtain ⟨p0, Hp0⟩ : ∃ x, Hid ((putTo g t k).pl.put = x) := ⟨_, rfl⟩
      rw [Hp0.out] at d0 b1 b2 HM HO2 HR
      clear hG1 hG d1 d2 d3 d4 t1 t2 hth b3 b4
      go_wp2_with fail
      refine HM.mono ?_
      rintro e w2 ⟨rfl, q1, q2⟩
      have R1 := HR.out _ q1
      have R2 := (hO.trans HO2.out).trans q2
      clear HM HR HO2 q1 q2 d0 f0 f1 f2 f3 hc Hp0 hO
      go_wp2
      go_roundg (gk - 1)
      case measure => omega
      case rel => exact ⟨k + 1, by omega, by go_num, R1, R2⟩
    · obtain rfl : k = len := by omega
      have R1 : Hid (GameAt B R k wr (putG g t)) := by unfold putG; rw [Hlen.out]; exact hG
      clear hG
      go_wp2
      go_end0
      exact ⟨rfl, R1.out, hO⟩

set_option maxHeartbeats 2000000 in
theorem take_any (B R P K : Nat) (g : GameL) (v : Value) (t : List Int) (w : World) (h : GameAt B R P w g) (hP : P ≤ 16) (hb : BndG P K g) (hK : K ≤ 500) (ht : Toks P t) (hv : ∀ w', Two B R w w' → Ints w' v t) :
    Calls Try.prog 17 #[.pointer (some ⟨B, 0, none⟩), v] w fun e w' => e = .returned (.tuple #[]) ∧ GameAt B R P w' (takeG g t) ∧ Two B R w w' := by
  obtain ⟨a, len, cap, rfl, hlen, hmx, hsh, _⟩ := hv w (Two.refl _ _ _)
  have Hv : Hid _ := hv
  have Hlen : Hid (t.length = len) := hlen
  have hlP : len = P := by rw [← hlen]; exact ht.len
  subst hlP
  have Ht : Hid _ := ht
  have Hb : Hid _ := hb
  clear hv hlen ht hb
  go_enter Try.func17, Try.ntmps17
  go_wp2_with fail
  go_loopg [9] len (fun gk i wr => ∃ k : Nat, k + gk = len ∧ i = .int .i64 k ∧ GameAt B R len wr (takeTo g t k) ∧ Two B R w wr)
  case atStart => exact ⟨0, by omega, rfl, h.same (by simp [takeTo, sumTo]) (fun j _ => by simp [takeTo]), Two.refl _ _ _⟩
  case round =>
    obtain ⟨k, hkg, rfl, hG, hO⟩ := hrel
    by_cases hkn : k < len
    · obtain ⟨a', l', c', e, _, _, _, hr⟩ := Hv.out wr hO
      injection e with e1 e2 e3
      subst e1 e2 e3
      obtain ⟨b, off, rfl, hblt, hc⟩ := hr k (by rw [Hlen.out]; exact hkn)
      obtain ⟨z, Hz⟩ : ∃ z, Hid (nth t k = z) := ⟨_, rfl⟩
      have hz : 0 ≤ z ∧ z ≤ 9 := by rw [← Hz.out]; exact ⟨Ht.out.lo k, Ht.out.hi k⟩
      rw [Hz.out] at hc
      clear hr
      obtain ⟨b1, b2, b3, b4, b5, b6⟩ := takeTo_bnd Hb.out hP hK Ht.out (k := k) (by omega)
      obtain ⟨d0, d1, d2, d3, d4, f0, f1, f2, f3⟩ := hG.at
      have hth : (takeTo g t k).there k = g.there k := by simp [takeTo]
      have ct := hG.cells k hkn
      have t1 := Hb.out.there0 k
      have t2 := Hb.out.there1 k
      obtain ⟨x, Hx⟩ : ∃ x, Hid (g.there k = x) := ⟨_, rfl⟩
      rw [hth, Hx.out] at ct
      rw [Hx.out] at t1 t2
      obtain ⟨L, HL⟩ : ∃ x, Hid (lackG g.there t k = x) := ⟨_, rfl⟩
      have eL : L = max (z - x) 0 := by rw [← HL.out, ← Hz.out, ← Hx.out]; rfl
      have hG1 := hG.fld (k := 2) (u := .int .i64 ((takeTo g t k).pl.lacked + L)) (p' := ⟨(takeTo g t k).pl.put, (takeTo g t k).pl.taken, (takeTo g t k).pl.lacked + L, (takeTo g t k).pl.left⟩) rfl
      obtain ⟨_, d1', _, _, _, _, f1', _, _⟩ := hG1.at
      have hG2 := hG1.fld (k := 1) (u := .int .i64 ((takeTo g t k).pl.taken + z)) (p' := ⟨(takeTo g t k).pl.put, (takeTo g t k).pl.taken + z, (takeTo g t k).pl.lacked + L, (takeTo g t k).pl.left⟩) rfl
      have HM := move_any B R len k _ (L - z) _ hG2 hkn hP (by show 0 ≤ (takeTo g t k).there k ∧ (takeTo g t k).there k ≤ 1000000; rw [hth, Hx.out]; omega) (by show -1000000 ≤ (takeTo g t k).pl.left ∧ (takeTo g t k).pl.left ≤ 1000000; omega) (by omega)
      have HR : Hid (∀ w', GameAt B R len w' (moveG ⟨⟨(takeTo g t k).pl.put, (takeTo g t k).pl.taken + z, (takeTo g t k).pl.lacked + L, (takeTo g t k).pl.left⟩, (takeTo g t k).there⟩ k (L - z)) → GameAt B R len w' (takeTo g t (k + 1))) := fun w' q => q.same (by
        rw [← Hz.out, ← HL.out]; simp only [moveG, takeTo, sumTo]; rw [Int.add_assoc, Int.add_assoc, Int.add_assoc]) (fun j _ => by rw [← Hz.out, ← HL.out]; exact (takeTo_next g t k j).symm)
      have HO2 : Hid (Two B R wr ((wr.setCell ⟨B, 2, none⟩ (.int .i64 ((takeTo g t k).pl.lacked + L))).setCell ⟨B, 1, none⟩ (.int .i64 ((takeTo g t k).pl.taken + z)))) := (Two.setL B R 2 wr _).trans (Two.setL B R 1 _ _)
      obtain ⟨p1, Hp1⟩ : ∃ x, Hid ((takeTo g t k).pl.taken = x) := ⟨_, rfl⟩
      obtain ⟨p2, Hp2⟩ : ∃ x, Hid ((takeTo g t k).pl.lacked = x) := ⟨_, rfl⟩
      simp only [Hp1.out, Hp2.out] at d1 d2 d1' b1 b2 b3 b4 HM HO2 HR
      have HR' : Hid _ := HR
      have HO2' : Hid _ := HO2
      clear hG1 hG2 hG d0 d3 hth b5 b6 HR HO2 Hp1 Hp2 HL Hx Hz
      have hcase : (z - x < 0 ∧ L = 0) ∨ (z - x = 0 ∧ L = 0) ∨ (0 < z - x ∧ L = z - x) := by omega
      clear eL
      have fin : ∀ w2, Hid (GameAt B R len w2 (moveG ⟨⟨(takeTo g t k).pl.put, p1 + z, p2 + L, (takeTo g t k).pl.left⟩, (takeTo g t k).there⟩ k (L - z))) → Hid (Two B R ((wr.setCell ⟨B, 2, none⟩ (.int .i64 (p2 + L))).setCell ⟨B, 1, none⟩ (.int .i64 (p1 + z))) w2) → Hid (GameAt B R len w2 (takeTo g t (k + 1)) ∧ Two B R w w2) := fun w2 q1 q2 => ⟨HR'.out _ q1.out, (hO.trans HO2'.out).trans q2.out⟩
      clear HR' HO2' hO
      have Hfin : Hid _ := fin
      clear fin
      rcases hcase with ⟨hq, rfl⟩ | ⟨hq, rfl⟩ | ⟨hq, rfl⟩
      all_goals
        try simp only [Int.add_zero, Int.zero_sub] at HM Hfin
        go_wp2_with fail
        refine HM.mono ?_
        rintro e w2 ⟨rfl, q1, q2⟩
        have R1 := Hfin.out _ q1 q2
        clear HM Hfin q1 q2 d1 d2 d4 d1' f1' f0 f1 f2 f3 hc ct
        go_wp2
        go_roundg (gk - 1)
        case measure => omega
        case rel => exact ⟨k + 1, by omega, by go_num, R1.out.1, R1.out.2⟩
    · obtain rfl : k = len := by omega
      have R1 : Hid (GameAt B R k wr (takeG g t)) := by unfold takeG; rw [Hlen.out]; exact hG
      clear hG
      go_wp2
      go_end0
      exact ⟨rfl, R1.out, hO⟩

end Go.Proofs.Ytfaehomopgichaa

/- Package replay as it landed: whether each transition has a name of its own; which one has a label. -/
namespace Go.Proofs.Ytfaehomopgichaa
open Go.RowKit
set_option linter.unusedVariables false
set_option linter.unusedSimpArgs false
set_option maxRecDepth 4000

def flagsA (N : Nat) (g : Nat → Bool) : Array Value := Array.ofFn (n := N) fun i => .bool (g i)
theorem flagsA_at (N : Nat) (g : Nat → Bool) {j : Nat} (h : j < N) : (flagsA N g)[j]? = some (.bool (g j)) := by
  unfold flagsA
  rw [Array.getElem?_ofFn]
  simp [h]
theorem info_flags27 : (Try.prog.info? 50).map (fun i => (i.zero, i.size, i.bytes)) = some (some (.agg (flagsA 27 fun _ => false)), 27, 27) := by kernel_rfl
theorem run_alloc_fl {t : TypeId} {cs : Array Value} {n m : Nat} (hi : (Try.prog.info? t).map (fun i => (i.zero, i.size, i.bytes)) = some (some (.agg cs), n, m)) (w : World) :
    (Instr.alloc t true (.tuple #[])).run Try.prog w = .ok (.pointer (some ⟨w.heap.size, 0, none⟩)) (w.alloc (.cells cs t)) := by
  obtain ⟨i0, h0, h1, h2, h3⟩ := info_parts hi
  simp [Instr.alloc, zeroValue, typeInfo, h0, h1, newVar, newRow, Value.cells, go_sem]
theorem wp_alloc_fl {o : Oper} {a : Act} {w : World} {K : Act → World → Prop} {Q : Exit → Act → World → Prop} {t : TypeId} {cs : Array Value} {n m : Nat} (hi : (Try.prog.info? t).map (fun i => (i.zero, i.size, i.bytes)) = some (some (.agg cs), n, m)) (ho : o.op = .alloc t)
    (h : K (a.put o.dst (.pointer (some ⟨w.heap.size, 0, none⟩))) (w.alloc (.cells cs t))) : o.wp Try.prog a w K Q := by
  unfold Oper.wp execOp
  simp only [ho, Sem.run_bind, run_alloc_fl hi, Result.andThen_ok, Sem.run_pure]
  exact h
theorem wpList_alloc_fl {ops : Array Oper} {rest : List Oper} {o : Oper} {a : Act} {w : World} {Q : Exit → Act → World → Prop} {t : TypeId} {cs : Array Value} {n m : Nat} (hgd : o.guard = none) (hi : (Try.prog.info? t).map (fun i => (i.zero, i.size, i.bytes)) = some (some (.agg cs), n, m)) (ho : o.op = .alloc t)
    (h : wpList Try.prog ops Q rest (a.put o.dst (.pointer (some ⟨w.heap.size, 0, none⟩))) (w.alloc (.cells cs t))) : wpList Try.prog ops Q (o :: rest) a w :=
  wpList_plain hgd fun _ hK => wp_alloc_fl hi ho (hK _ _ h)
theorem boolRow_new (w : World) (N : Nat) (g : Nat → Bool) (t : TypeId) : BoolRow (w.alloc (.cells (flagsA N g) t)) w.heap.size N g :=
  ⟨fun j hj => by rw [World.cell?_alloc_at _ _ _ _ rfl]; exact flagsA_at N g hj, fun j hj => World.frozen?_alloc_at _ _ _ _ rfl, by simp⟩

/-- Which labels were met. -/
def usedTo (n : NetL) (k : Nat) (l : Nat) : Bool := decide (l = 0) || (List.range k).any fun j => (tranAt n.trans j).label == (l : Int)
def NamedTo (n : NetL) (k : Nat) : Prop := ∀ a, a < k → (tranAt n.trans a).label ≠ 0 ∧ ∀ j, j < a → (tranAt n.trans j).label ≠ (tranAt n.trans a).label
theorem used_iff (n : NetL) (k l : Nat) : usedTo n k l = true ↔ l = 0 ∨ ∃ j, j < k ∧ (tranAt n.trans j).label = l := by
  simp [usedTo]
theorem used_next (n : NetL) (k l m : Nat) (h : (tranAt n.trans k).label = l) : usedTo n (k + 1) m = if m = l then true else usedTo n k m := by
  rw [Bool.eq_iff_iff, used_iff]
  by_cases e : m = l
  · subst e; simp; exact .inr ⟨k, by omega, h⟩
  · rw [if_neg e, used_iff]
    constructor
    · rintro (q | ⟨j, hj, q⟩)
      · exact .inl q
      · by_cases ej : j = k
        · subst ej; omega
        · exact .inr ⟨j, by omega, q⟩
    · rintro (q | ⟨j, hj, q⟩)
      · exact .inl q
      · exact .inr ⟨j, by omega, q⟩
theorem named_next {n : NetL} {k l : Nat} (h : NamedTo n k) (hl : (tranAt n.trans k).label = l) (hu : usedTo n k l = false) : NamedTo n (k + 1) := by
  have hu' : ¬ (l = 0 ∨ ∃ j, j < k ∧ (tranAt n.trans j).label = l) := fun q => by rw [(used_iff n k l).2 q] at hu; cases hu
  intro a ha
  by_cases e : a = k
  · subst e
    exact ⟨fun q => hu' (.inl (by omega)), fun j hj q => hu' (.inr ⟨j, hj, by omega⟩)⟩
  · exact h a (by omega)
theorem named_not {n : NetL} {k l : Nat} (hk : k < n.trans.length) (hl : (tranAt n.trans k).label = l) (hu : usedTo n k l = true) : ¬ NamedN n := by
  intro h
  rcases (used_iff n k l).1 hu with q | ⟨j, hj, q⟩
  · exact (h k hk).1 (by omega)
  · exact (h k hk).2 j hj (by omega)
theorem lab_bound {n : NetL} (hn : netOk n = true) {k : Nat} (hk : k < n.trans.length) : 0 ≤ (tranAt n.trans k).label ∧ (tranAt n.trans k).label ≤ 26 := by
  have := net_tran hn hk
  unfold tranOk tranHead at this
  simp only [Bool.and_eq_true, decide_eq_true_eq, beq_iff_eq] at this
  omega

set_option maxHeartbeats 2000000 in
theorem named_any (v : Value) (n : NetL) (w : World) (hv : Net w v n) (hn : netOk n = true) :
    Calls Try.prog 14 #[v] w fun e w' => ∃ b, e = .returned (.bool b) ∧ (b = true ↔ NamedN n) ∧ Below w.heap.size w w' := by
  obtain ⟨tv, rfl, hT⟩ := hv
  obtain ⟨ta, len, tc, rfl, hlen, hmx, _⟩ := id hT
  have b1 := below_new w (.cells #[.int .i64 n.places, .slice ta len tc] 24)
  have hbx := box2_new w (.int .i64 n.places) (.slice ta len tc) 24
  obtain ⟨wa, Hwa⟩ : ∃ v, Hid (w.alloc (.cells #[.int .i64 n.places, .slice ta len tc] 24) = v) := ⟨_, rfl⟩
  rw [Hwa.out] at b1 hbx
  have s1 : wa.heap.size = w.heap.size + 1 := by rw [← Hwa.out]; simp
  have b2 := below_new wa (.cells (flagsA 27 fun _ => false) 50)
  have hR := boolRow_new wa 27 (fun _ => false) 50
  rw [s1] at hR
  obtain ⟨w0, Hw0⟩ : ∃ v, Hid (wa.alloc (.cells (flagsA 27 fun _ => false) 50) = v) := ⟨_, rfl⟩
  rw [Hw0.out] at b2 hR
  replace hbx := hbx.below b2
  have c0 := below_then b1 b2
  have Hlen : Hid (n.trans.length = len) := hlen
  clear hlen
  go_enter Try.func14, Try.ntmps14
  go_upto_region 1 with fail
  rw [Hwa.out]
  go_upto_region 2 with (refine wpList_alloc_fl rfl info_flags27 rfl ?_)
  first | rw [s1, Hw0.out] | rw [Hw0.out]
  try simp only [Act.put, List.setIfInBounds_toArray, List.set_cons_zero, List.set_cons_succ]
  clear Hwa Hw0 s1 b1 b2
  have k0 := hR.cells 0 (by omega)
  have k1 := hR.frozen 0 (by omega)
  have hR1 := hR.put (k := 0) (by omega) (x := true) (g := usedTo n 0) (by rfl) (fun j hj hne => by simp [usedTo, hne])
  have c1 : Below w.heap.size w (w0.setCell ⟨w.heap.size + 1, 0, none⟩ (.bool true)) := c0.setCell (p := ⟨w.heap.size + 1, 0, none⟩) (by simp) _
  obtain ⟨x0, x1, x2⟩ := id hbx
  have HR1 : Hid _ := hR1
  have Hc1 : Hid _ := c1
  clear hR hR1 c1 c0
  go_upto_region 3 with fail
  obtain ⟨w1, Hw1⟩ : ∃ v, Hid (w0.setCell ⟨w.heap.size + 1, 0, none⟩ (.bool true) = v) := ⟨_, rfl⟩
  rw [Hw1.out] at HR1 Hc1 ⊢
  have y1 : w1.cell? ⟨w.heap.size, 1, none⟩ = some (.slice ta len tc) := by rw [← Hw1.out, World.cell?_setCell_other _ _ _ _ (by intro q; injection q with q1 _; omega)]; exact x2
  clear k0 k1 x0 x1 x2 Hw1 hbx
  go_wp2_with fail
  go_loopg [10] len (fun gk i wr => ∃ k : Nat, k + gk = len ∧ i = .int .i64 k ∧ Below w.heap.size w wr ∧ BoolRow wr (w.heap.size + 1) 27 (usedTo n k) ∧ Hid (NamedTo n k))
  case atStart => exact ⟨0, by omega, rfl, Hc1.out, HR1.out, fun a ha => absurd ha (Nat.not_lt_zero _)⟩
  case round =>
    obtain ⟨k, hkg, rfl, hb, hU, HN⟩ := hrel
    by_cases hkn : k < len
    · have Hkl : Hid (k < n.trans.length) := by show k < n.trans.length; rw [Hlen.out]; exact hkn
      obtain ⟨tb, tf, c1, c2, rfl, hblt, t0, t1, t2, i1, i2⟩ := (hT.below hb).at hkn
      obtain ⟨L, HL⟩ : ∃ L, Hid ((tranAt n.trans k).label = L) := ⟨_, rfl⟩
      have hl := lab_bound hn Hkl.out
      rw [HL.out] at hl t0
      obtain ⟨l, rfl⟩ := Int.eq_ofNat_of_zero_le hl.1
      have hl27 : l < 27 := by omega
      clear hl
      obtain ⟨a1, l1, p1, rfl, _⟩ := id i1
      obtain ⟨a2, l2, p2, rfl, _⟩ := id i2
      clear i1 i2
      have bb := below_new wr (.cells #[.int .i64 (l : Int), .slice a1 l1 p1, .slice a2 l2 p2] 35)
      have q0 := (hU.below bb).cells l hl27
      have q1 := (hU.below bb).frozen l hl27
      have hU2 := (hU.below bb).put (k := l) hl27 (x := true) (g := usedTo n (k + 1)) (by rw [used_next n k l l HL.out, if_pos rfl]) (fun j hj hne => by rw [used_next n k l j HL.out, if_neg hne])
      have hb2 : Below w.heap.size w ((wr.alloc (.cells #[.int .i64 (l : Int), .slice a1 l1 p1, .slice a2 l2 p2] 35)).setCell ⟨w.heap.size + 1, l, none⟩ (.bool true)) := (below_then hb bb).setCell (p := ⟨w.heap.size + 1, l, none⟩) (by simp) _
      have hb1 := below_then hb bb
      have Hb1 : Hid _ := hb1
      have Hb2 : Hid _ := hb2
      have HU2 : Hid _ := hU2
      clear bb hU2 hb2 hb1
      cases hu : usedTo n k l
      · have HN2 : Hid (NamedTo n (k + 1)) := named_next HN.out HL.out hu
        rw [hu] at q0
        clear HN HL hU hu hb
        go_wp2
        go_roundg (gk - 1)
        case measure => omega
        case rel => exact ⟨k + 1, by omega, by go_num, Hb2.out, HU2.out, HN2⟩
      · have HN2 : Hid (¬ NamedN n) := named_not Hkl.out HL.out hu
        rw [hu] at q0
        clear HN HL hU hu hb
        go_wp2
        go_ret
        exact ⟨_, rfl, ⟨fun q => (by cases q), fun q => absurd q HN2.out⟩, Hb1.out⟩
    · obtain rfl : k = len := by omega
      have HN2 : Hid (NamedN n) := fun a ha => HN.out a (by rw [← Hlen.out]; exact ha)
      clear HN
      go_wp2
      go_ret
      exact ⟨_, rfl, ⟨fun _ => HN2.out, fun _ => rfl⟩, hb⟩

/-- The function g with the captured value q tells p of every transition, in every world that comes of w0. -/
def AsksT1 (w0 : World) (g : Nat) (q : Value) (p : TranL → Bool) : Prop :=
  ∀ u1 u2 (x : TranL) w, Below w0.heap.size w0 w → Ints w u1 x.pre → Ints w u2 x.post → Calls Try.prog g #[.agg #[.int .i64 x.label, u1, u2], q] w fun e w' => e = .returned (.bool (p x)) ∧ Below w.heap.size w w'
/-- The first one's number, or -1. -/
def idxI (o : Option Nat) : Int := match o with | none => -1 | some k => k
theorem find_first {ls : List TranL} {p : TranL → Bool} {k : Nat} (hk : k < ls.length) (h : ∀ j, j < k → p (tranAt ls j) = false) (hp : p (tranAt ls k) = true) : ls.findIdx? p = some k := by
  rw [List.findIdx?_eq_some_iff_getElem]
  refine ⟨hk, by rw [← tranAt_get hk]; exact hp, fun j hj => ?_⟩
  have := h j hj
  rw [tranAt_get (by omega)] at this
  simp [this]
theorem find_none {ls : List TranL} {p : TranL → Bool} (h : ∀ j, j < ls.length → p (tranAt ls j) = false) : ls.findIdx? p = none := by
  rw [List.findIdx?_eq_none_iff]
  intro x hx
  obtain ⟨j, hj, rfl⟩ := List.getElem_of_mem hx
  have := h j hj
  rwa [tranAt_get hj] at this

set_option maxHeartbeats 1000000 in
theorem indextrans1 (w0 : World) (g : Nat) (q : Value) (p : TranL → Bool) (hg : AsksT1 w0 g q p) (eg : ∀ args w, (callFunc g args).run Try.prog w = .ok (.enter g args) w) (v : Value) (ls : List TranL) (w : World) (hw : Below w0.heap.size w0 w) (hv : Trans w v ls) :
    Calls Try.prog 9 #[v, .func (.func g) #[] #[q]] w fun e w' => e = .returned (.int .i64 (idxI (ls.findIdx? p))) ∧ Below w.heap.size w w' := by
  obtain ⟨a, len, ca, rfl, hlen, hla, hsh, _⟩ := id hv
  have Hg : Hid _ := hg
  have Hlen : Hid (ls.length = len) := hlen
  clear hg hlen
  go_enter Try.func9, Try.ntmps9
  go_wp2_with fail
  go_loopg [8] len (fun g i wr => ∃ k : Nat, k + g = len ∧ i = .int .i64 k ∧ Below w.heap.size w wr ∧ Hid (∀ j, j < k → p (tranAt ls j) = false))
  case atStart => exact ⟨0, by omega, rfl, Below.refl _ _, fun j hj => absurd hj (Nat.not_lt_zero _)⟩
  case round =>
    obtain ⟨k, hkg, rfl, hb, Hn⟩ := hrel
    by_cases hkn : k < len
    · obtain ⟨b, off, c1, c2, rfl, hblt, h0, h1, h2, i1, i2⟩ := (hv.below hb).at hkn
      have hw2 := below_then hw hb
      obtain ⟨t, Ht⟩ : ∃ t, Hid (tranAt ls k = t) := ⟨_, rfl⟩
      rw [Ht.out] at h0 i1 i2
      obtain ⟨a1, l1, p1, rfl, _, _, _, _⟩ := id i1
      obtain ⟨a2, l2, p2, rfl, _, _, _, _⟩ := id i2
      go_wp2_with fail
      refine (Hg.out _ _ t _ (by exact hw2) (by exact i1) (by exact i2)).mono ?_
      rintro e w2 ⟨rfl, b'⟩
      have R := below_then hb b'
      cases hp : p t
      · have Hn2 : Hid (∀ j, j < k + 1 → p (tranAt ls j) = false) := fun j hj => by
          by_cases e : j = k
          · subst e; rw [Ht.out]; exact hp
          · exact Hn.out j (by omega)
        clear b' hb i1 i2 h0 h1 h2 hp hw2
        go_wp2
        go_roundg (gk - 1)
        case measure => omega
        case rel => exact ⟨k + 1, by omega, by go_num, R, Hn2⟩
      · have F : Hid (ls.findIdx? p = some k) := find_first (by have := Hlen.out; omega) Hn.out (by rw [Ht.out]; exact hp)
        clear b' hb i1 i2 h0 h1 h2 hp hw2
        go_wp2
        go_ret
        exact ⟨by rw [F.out]; rfl, R⟩
    · have F : Hid (ls.findIdx? p = none) := find_none fun j hj => Hn.out j (by have := Hlen.out; omega)
      go_wp2
      go_ret
      exact ⟨by rw [F.out]; rfl, hb⟩

theorem labels_asks (w0 : World) (bl : Nat) (l : Int) (hl : Box1 w0 bl (.int .i64 l)) : AsksT1 w0 16 (.pointer (some ⟨bl, 0, none⟩)) (hasLab l) := by
  intro u1 u2 x w hb h1 h2
  obtain ⟨a1, l1, p1, rfl, _⟩ := id h1
  obtain ⟨a2, l2, p2, rfl, _⟩ := id h2
  have bb := below_new w (.cells #[.int .i64 x.label, .slice a1 l1 p1, .slice a2 l2 p2] 35)
  obtain ⟨hlt, c0⟩ := (hl.below hb).below bb
  obtain ⟨y, Hy⟩ : ∃ y, Hid (x.label = y) := ⟨_, rfl⟩
  have R : Hid (hasLab l x = (y == l)) := by unfold hasLab; rw [Hy.out]; rfl
  rw [Hy.out] at bb c0 ⊢
  rw [R.out]
  clear h1 h2 hb hl hlt
  go_enter Try.func16, Try.ntmps16
  go_wp2
  go_ret
  exact ⟨rfl, bb⟩

end Go.Proofs.Ytfaehomopgichaa
