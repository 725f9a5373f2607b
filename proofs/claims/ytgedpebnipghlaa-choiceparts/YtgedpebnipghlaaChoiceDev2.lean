/- Package choice as it landed: the first one of each part, plainly; two parts made one, in memory. -/
import Derived.Test.YtgedpebnipghlaaChoiceDev1
import Derived.Test.YtgedpebnipghlaaListsOut
import Derived.Test.YtgedpebnipghlaaOnlyB
namespace Go.Proofs.Ytgedpebnipghlaa
open Go.RowKit
set_option linter.unusedVariables false
set_option linter.unusedSimpArgs false
set_option maxRecDepth 4000

/-! ### plainly -/
/-- One comes to the other by links, in whatever direction. -/
def Conn (E : Nat → Nat → Prop) (x y : Nat) : Prop := ∀ Q : Nat → Prop, Q x → (∀ u v, E u v → (Q u ↔ Q v)) → Q y
theorem Conn.here (E : Nat → Nat → Prop) (x : Nat) : Conn E x x := fun _ h _ => h
theorem Conn.trans {E : Nat → Nat → Prop} {x y z : Nat} (h : Conn E x y) (k : Conn E y z) : Conn E x z := fun Q h0 h1 => k Q (h Q h0 h1) h1
theorem Conn.symm {E : Nat → Nat → Prop} {x y : Nat} (h : Conn E x y) : Conn E y x := fun Q h0 h1 =>
  (h (fun z => Q z → Q x) (fun q => q) (fun u v huv => ⟨fun hu q => hu ((h1 u v huv).2 q), fun hv q => hv ((h1 u v huv).1 q)⟩)) h0
theorem Conn.link {E : Nat → Nat → Prop} {x y : Nat} (h : E x y) : Conn E x y := fun Q h0 h1 => (h1 x y h).1 h0
theorem Conn.more {E E' : Nat → Nat → Prop} {x y : Nat} (h : Conn E x y) (hE : ∀ u v, E u v → E' u v) : Conn E' x y := fun Q h0 h1 => h Q h0 fun u v huv => h1 u v (hE u v huv)

structure Fst (E : Nat → Nat → Prop) (m : Nat) (f : Nat → Int) : Prop where
  dom : ∀ u v, E u v → u < m ∧ v < m
  low : ∀ i, i < m → 0 ≤ f i ∧ f i ≤ i
  con : ∀ i, i < m → Conn E i (f i).toNat
  same : ∀ u v, E u v → f u = f v
theorem Fst.conn {E : Nat → Nat → Prop} {m : Nat} {f : Nat → Int} (h : Fst E m f) {x y : Nat} (hc : Conn E x y) : f x = f y := hc (fun z => f x = f z) rfl fun u v huv => by rw [h.same u v huv]
theorem Fst.as {E E' : Nat → Nat → Prop} {m : Nat} {f : Nat → Int} (h : Fst E m f) (h1 : ∀ u v, E' u v ↔ E u v) : Fst E' m f :=
  ⟨fun u v q => h.dom u v ((h1 u v).1 q), h.low, fun i hi => (h.con i hi).more fun u v q => (h1 u v).2 q, fun u v q => h.same u v ((h1 u v).1 q)⟩
theorem Fst.grow {E : Nat → Nat → Prop} {m : Nat} {f f' : Nat → Int} (h : Fst E m f) (h1 : ∀ i, i < m → f' i = f i) (h2 : f' m = m) : Fst E (m + 1) f' := by
  refine ⟨fun u v q => ⟨by have := (h.dom u v q).1; omega, by have := (h.dom u v q).2; omega⟩, fun i hi => ?_, fun i hi => ?_, fun u v q => ?_⟩
  · rcases Nat.lt_or_ge i m with h3 | h3
    · rw [h1 i h3]; exact h.low i h3
    · obtain rfl : i = m := by omega
      rw [h2]; omega
  · rcases Nat.lt_or_ge i m with h3 | h3
    · rw [h1 i h3]; exact h.con i h3
    · obtain rfl : i = m := by omega
      rw [h2]; exact Conn.here E i
  · rw [h1 u (h.dom u v q).1, h1 v (h.dom u v q).2]; exact h.same u v q

/-- Where x and y were, the lesser of both is. -/
def joinV (x y z : Int) : Int := if z = x ∨ z = y then min x y else z
theorem Fst.join {E E' : Nat → Nat → Prop} {m : Nat} {f f' : Nat → Int} (h : Fst E m f) {a b : Nat} (ha : a < m) (hb : b < m) (h1 : ∀ u v, E' u v ↔ E u v ∨ (u = a ∧ v = b)) (hf : ∀ i, i < m → f' i = joinV (f a) (f b) (f i)) : Fst E' m f' := by
  have hE : ∀ u v, E u v → E' u v := fun u v q => (h1 u v).2 (.inl q)
  have hab : Conn E' a b := Conn.link ((h1 a b).2 (.inr ⟨rfl, rfl⟩))
  have ca := (h.con a ha).more hE
  have cb := (h.con b hb).more hE
  refine ⟨fun u v q => ?_, fun i hi => ?_, fun i hi => ?_, fun u v q => ?_⟩
  · rcases (h1 u v).1 q with q | ⟨rfl, rfl⟩
    · exact h.dom u v q
    · exact ⟨ha, hb⟩
  · rw [hf i hi]
    have := h.low i hi
    have := h.low a ha
    have := h.low b hb
    unfold joinV
    split <;> omega
  · rw [hf i hi]
    have ci := (h.con i hi).more hE
    unfold joinV
    split
    · rename_i q
      have key : Conn E' i a := by
        rcases q with q | q
        · rw [q] at ci; exact ci.trans ca.symm
        · rw [q] at ci; exact (ci.trans cb.symm).trans hab.symm
      rcases Int.le_total (f a) (f b) with q | q
      · rw [Int.min_eq_left q]; exact key.trans ca
      · rw [Int.min_eq_right q]; exact (key.trans hab).trans cb
    · exact ci
  · rcases (h1 u v).1 q with q | ⟨rfl, rfl⟩
    · rw [hf u (h.dom u v q).1, hf v (h.dom u v q).2, h.same u v q]
    · rw [hf u ha, hf v hb]
      unfold joinV
      rw [if_pos (.inl rfl), if_pos (.inr rfl)]

/-- Pairs up to here that share a place. -/
def LinkB (n : NetL) (b a : Nat) (x y : Nat) : Prop := Shares n x y ∧ x < y ∧ (y < b ∨ (y = b ∧ x < a))
theorem fst_none (n : NetL) (f : Nat → Int) : Fst (LinkB n 0 0) 0 f := ⟨fun u v q => by have := q.2; omega, fun i h => by omega, fun i h => by omega, fun u v q => by have := q.2; omega⟩
theorem fst_skip {n : NetL} {b a m : Nat} {f : Nat → Int} (h : Fst (LinkB n b a) m f) (hs : ¬ Shares n a b) : Fst (LinkB n b (a + 1)) m f := by
  refine h.as fun u v => ⟨fun ⟨h1, h2, h3⟩ => ⟨h1, h2, ?_⟩, fun ⟨h1, h2, h3⟩ => ⟨h1, h2, by omega⟩⟩
  rcases h3 with h3 | ⟨rfl, h3⟩
  · exact .inl h3
  · rcases Nat.lt_or_ge u a with h4 | h4
    · exact .inr ⟨rfl, h4⟩
    · obtain rfl : u = a := by omega
      exact absurd h1 hs
theorem fst_join {n : NetL} {b a m : Nat} {f f' : Nat → Int} (h : Fst (LinkB n b a) m f) (hs : Shares n a b) (hab : a < b) (hb : b < m) (hf : ∀ i, i < m → f' i = joinV (f a) (f b) (f i)) : Fst (LinkB n b (a + 1)) m f' := by
  refine h.join (a := a) (b := b) (by omega) hb (fun u v => ⟨fun ⟨h1, h2, h3⟩ => ?_, fun q => ?_⟩) hf
  · rcases h3 with h3 | ⟨rfl, h3⟩
    · exact .inl ⟨h1, h2, .inl h3⟩
    · rcases Nat.lt_or_ge u a with h4 | h4
      · exact .inl ⟨h1, h2, .inr ⟨rfl, h4⟩⟩
      · exact .inr ⟨by omega, rfl⟩
  · rcases q with ⟨h1, h2, h3⟩ | ⟨rfl, rfl⟩
    · exact ⟨h1, h2, by omega⟩
    · exact ⟨hs, hab, .inr ⟨rfl, by omega⟩⟩
theorem fst_row {n : NetL} {b m : Nat} {f : Nat → Int} (h : Fst (LinkB n b b) m f) : Fst (LinkB n (b + 1) 0) m f :=
  h.as fun u v => ⟨fun ⟨h1, h2, h3⟩ => ⟨h1, h2, by omega⟩, fun ⟨h1, h2, h3⟩ => ⟨h1, h2, by omega⟩⟩
theorem stepsN_led {n : NetL} : ∀ {k a x : Nat}, a < n.trans.length → StepsN n k a x → x < n.trans.length ∧ Led n a x
  | 0, a, x, ha, h => by obtain rfl : a = x := h; exact ⟨ha, Led.here n a⟩
  | k + 1, a, x, ha, h => by
    obtain ⟨c, hc, hs, h2⟩ := h
    obtain ⟨h3, h4⟩ := stepsN_led hc h2
    exact ⟨h3, ((Led.here n a).step ha hc hs).trans h4⟩
theorem fst_head {n : NetL} {f : Nat → Int} (h : Fst (LinkB n n.trans.length 0) n.trans.length f) : HeadMid n n.trans.length 0 0 f := by
  have toLed : ∀ {x y}, Conn (LinkB n n.trans.length 0) x y → Led n x y := fun {x y} hc =>
    hc (fun z => Led n x z) (Led.here n x) fun u v huv => ⟨fun q => q.step (h.dom u v huv).1 (h.dom u v huv).2 huv.1, fun q => q.step (h.dom u v huv).2 (h.dom u v huv).1 huv.1.symm⟩
  have ofLed : ∀ {x y}, Led n x y → Conn (LinkB n n.trans.length 0) x y := fun {x y} hl =>
    hl (fun z => Conn (LinkB n n.trans.length 0) x z) (Conn.here _ x) fun u v hu hv q hs => by
      rcases Nat.lt_trichotomy u v with h1 | h1 | h1
      · exact q.trans (Conn.link ⟨hs, h1, .inl hv⟩)
      · rw [← h1]; exact q
      · exact q.trans (Conn.link ⟨hs.symm, h1, .inl hu⟩ : Conn _ v u).symm
  refine ⟨⟨h.low, fun i hi => toLed (h.con i hi)⟩, fun a ha k x hk hs => ?_, fun a h => absurd h (Nat.not_lt_zero _), fun c h => absurd h (Nat.not_lt_zero _)⟩
  obtain ⟨hx, hl⟩ := stepsN_led ha hs
  rw [h.conn (ofLed hl)]
  exact (h.low x hx).2

/-- The first so many of a list are looked through. -/
def joinTo (zs : List Int) (x y : Int) (t : Nat) : List Int := (zs.take t).map (joinV x y) ++ zs.drop t
theorem joinTo_length (zs : List Int) (x y : Int) (t : Nat) : (joinTo zs x y t).length = zs.length := by simp [joinTo]; omega
theorem joinTo_zero (zs : List Int) (x y : Int) : joinTo zs x y 0 = zs := by simp [joinTo]
theorem nth_joinTo (zs : List Int) (x y : Int) (t i : Nat) (hi : i < zs.length) : nth (joinTo zs x y t) i = if i < t then joinV x y (nth zs i) else nth zs i := by
  unfold nth joinTo
  rw [List.getD_eq_getElem?_getD, List.getD_eq_getElem?_getD, List.getElem?_append]
  simp only [List.length_map, List.length_take]
  by_cases h : i < t
  · rw [if_pos (by omega), if_pos h, List.getElem?_map, List.getElem?_take_of_lt h, List.getElem?_eq_getElem hi]
    rfl
  · rw [if_neg (by omega), if_neg h, List.getElem?_drop]
    congr 2
    omega
theorem nth_ext {xs ys : List Int} (hl : xs.length = ys.length) (h : ∀ i, i < xs.length → nth xs i = nth ys i) : xs = ys := by
  apply List.ext_getElem hl
  intro i h1 h2
  have := h i h1
  unfold nth at this
  rw [List.getD_eq_getElem?_getD, List.getD_eq_getElem?_getD, List.getElem?_eq_getElem h1, List.getElem?_eq_getElem h2] at this
  exact this
theorem nth_set (xs : List Int) (k : Nat) (x : Int) (i : Nat) (hk : k < xs.length) : nth (xs.set k x) i = if i = k then x else nth xs i := by
  unfold nth
  rw [List.getD_eq_getElem?_getD, List.getD_eq_getElem?_getD, List.getElem?_set]
  by_cases h : k = i
  · subst h; simp [hk]
  · rw [if_neg h, if_neg (by omega)]
theorem joinTo_put {zs : List Int} {x y : Int} {t : Nat} (ht : t < zs.length) (hz : nth zs t = x ∨ nth zs t = y) {m : Int} (hm : m = min x y) : (joinTo zs x y t).set t m = joinTo zs x y (t + 1) := by
  refine nth_ext (by rw [List.length_set, joinTo_length, joinTo_length]) fun i hi => ?_
  rw [List.length_set, joinTo_length] at hi
  rw [nth_set _ _ _ _ (by rw [joinTo_length]; exact ht), nth_joinTo _ _ _ _ _ hi, nth_joinTo _ _ _ _ _ hi]
  by_cases e : i = t
  · subst e
    rw [if_pos rfl, if_pos (by omega), hm]
    unfold joinV; rw [if_pos hz]
  · rw [if_neg e]
    by_cases h : i < t
    · rw [if_pos h, if_pos (by omega)]
    · rw [if_neg h, if_neg (by omega)]
theorem joinTo_skip {zs : List Int} {x y : Int} {t : Nat} (ht : t < zs.length) (hz : ¬ (nth zs t = x ∨ nth zs t = y)) : joinTo zs x y t = joinTo zs x y (t + 1) := by
  refine nth_ext (by rw [joinTo_length, joinTo_length]) fun i hi => ?_
  rw [joinTo_length] at hi
  rw [nth_joinTo _ _ _ _ _ hi, nth_joinTo _ _ _ _ _ hi]
  by_cases e : i = t
  · subst e
    rw [if_neg (by omega), if_pos (by omega)]
    unfold joinV; rw [if_neg hz]
  · by_cases h : i < t
    · rw [if_pos h, if_pos (by omega)]
    · rw [if_neg h, if_neg (by omega)]

/-! ### in memory -/
theorem setCell_blockC {w : World} {g off : Nat} {cur : Array Value} {e : TypeId} (h : w.heap[g]? = some (.cells cur e (0, 0))) (u : Value) : (w.setCell ⟨g, off, none⟩ u).heap[g]? = some (.cells (cur.setIfInBounds off u) e (0, 0)) := by
  have hlt : g < w.heap.size := (Array.getElem?_eq_some_iff.1 h).1
  have h' : w.heap[g] = .cells cur e (0, 0) := (Array.getElem?_eq_some_iff.1 h).2
  show (w.heap.modify g _)[g]? = _
  rw [Array.getElem?_eq_getElem (by simpa using hlt), Array.getElem_modify_self, h']
  rfl
theorem ownsRow_setC {B : Nat} {w : World} {e : TypeId} {g n cap : Nat} {xs : List Value} (h : w.ownsRow B e 1 (.slice (some ⟨g, 0, none⟩) n cap) n xs) {j : Nat} (hj : j < n) (u : Value) :
    (w.setCell ⟨g, j, none⟩ u).ownsRow B e 1 (.slice (some ⟨g, 0, none⟩) n cap) n (xs.set j u) := by
  obtain ⟨h1, h2⟩ := h
  refine ⟨by simpa using h1, ?_⟩
  rcases h2 with ⟨e1, _⟩ | ⟨g', cap', cur, e1, hg, hh, r1, r2, r3, r4⟩
  · cases e1
  · injection e1 with e2 e3 e4
    injection e2 with e2
    injection e2 with e2
    subst e2 e4
    refine .inr ⟨g, cap, cur.setIfInBounds j u, rfl, hg, setCell_blockC hh u, r1, r2, by simpa using r3, ?_⟩
    rw [Array.toList_setIfInBounds, ← r4, List.take_set]
theorem Own.putC {B : Nat} {w wr : World} {g n cap : Nat} {zs : List Int} (h : Own B w wr (.slice (some ⟨g, 0, none⟩) n cap) zs) (hn : zs.length = n) {j : Nat} (hj : j < n) (x : Int) :
    Own B w (wr.setCell ⟨g, j, none⟩ (.int .i64 x)) (.slice (some ⟨g, 0, none⟩) n cap) (zs.set j x) := by
  obtain ⟨h1, h2, h3⟩ := h
  have hB : B ≤ g := (ownsRow_lt h1 (k := g) rfl).1
  have h1' := h1
  rw [hn] at h1'
  refine ⟨?_, h2.setCell (p := ⟨g, j, none⟩) hB _, by simpa [World.setCell] using h3⟩
  have := ownsRow_setC h1' hj (.int .i64 x)
  rw [List.length_set, hn, List.map_set]
  exact this
theorem Own.cellC {B : Nat} {w wr : World} {g n cap : Nat} {zs : List Int} (h : Own B w wr (.slice (some ⟨g, 0, none⟩) n cap) zs) (hn : zs.length = n) {j : Nat} (hj : j < n) :
    wr.cell? ⟨g, j, none⟩ = some (.int .i64 (nth zs j)) ∧ wr.frozen? ⟨g, j, none⟩ = false ∧ g < wr.heap.size := by
  have h1 := h.1
  rw [hn] at h1
  have hc := h1.cellAt j (by omega)
  obtain ⟨_, hk⟩ := h.1
  rcases hk with ⟨e1, _⟩ | ⟨g', cap', cur, e1, hg, hh, _⟩
  · cases e1
  · injection e1 with e2 e3 e4
    injection e2 with e2
    injection e2 with e2
    subst e2
    refine ⟨by rw [hc]; simp [nth, List.getD, List.getElem?_eq_getElem (show j < zs.length by omega)], by simp [World.frozen?, hh], (Array.getElem?_eq_some_iff.1 hh).1⟩
theorem Own.placed {B : Nat} {w wr : World} {v : Value} {zs : List Int} (h : Own B w wr v zs) (hz : 0 < zs.length) : ∃ g cap, v = .slice (some ⟨g, 0, none⟩) zs.length cap ∧ v.ownBlock = some g ∧ zs.length ≤ cap ∧ cap ≤ 9223372036854775807 := by
  rcases h.1.2 with ⟨rfl, h0⟩ | ⟨g, cap', cur, rfl, _, _, r1, r2, _⟩
  · omega
  · exact ⟨g, cap', rfl, rfl, r1, by unfold maxLen at r2; omega⟩

set_option maxHeartbeats 1000000 in
theorem join_any (B : Nat) (w0 w : World) (g n cap : Nat) (zs : List Int) (x y : Int) (hO : Own B w0 w (.slice (some ⟨g, 0, none⟩) n cap) zs) (hn : zs.length = n) (hc1 : n ≤ cap) (hc2 : cap ≤ 9223372036854775807) (hmx : n ≤ 17592186044416) :
    Calls Try.prog 45 #[.slice (some ⟨g, 0, none⟩) n cap, .int .i64 x, .int .i64 y] w fun e w' => e = .returned (.tuple #[]) ∧ Own B w0 w' (.slice (some ⟨g, 0, none⟩) n cap) (joinTo zs x y n) ∧ OnlyB g w w' := by
  have Hn : Hid (zs.length = n) := hn
  clear hn
  go_enter Try.func45, Try.ntmps45
  go_wp2_with fail
  go_loopg [10] n (fun gk t' wr => ∃ t : Nat, t + gk = n ∧ t' = .int .i64 (t : Int) ∧ Own B w0 wr (.slice (some ⟨g, 0, none⟩) n cap) (joinTo zs x y t) ∧ OnlyB g w wr)
  case atStart => exact ⟨0, by omega, rfl, by rw [joinTo_zero]; exact hO, OnlyB.refl _ _⟩
  case round =>
    clear hO
    obtain ⟨t, htg, rfl, hO, hB⟩ := hrel
    by_cases ht : t < n
    · have hl : (joinTo zs x y t).length = n := by rw [joinTo_length]; exact Hn.out
      obtain ⟨c1, c2, c3⟩ := hO.cellC hl ht
      have HS : Hid _ := joinTo_skip (x := x) (y := y) (show t < zs.length by rw [Hn.out]; exact ht)
      have HP : Hid (nth zs t = x ∨ nth zs t = y → ∀ m, m = min x y → (joinTo zs x y t).set t m = joinTo zs x y (t + 1)) := fun h m hm => joinTo_put (show t < zs.length by rw [Hn.out]; exact ht) h hm
      have HO2 : Hid (∀ z, Own B w0 (wr.setCell ⟨g, t, none⟩ (.int .i64 z)) (.slice (some ⟨g, 0, none⟩) n cap) ((joinTo zs x y t).set t z)) := fun z => hO.putC hl ht z
      have HB2 : Hid (∀ z, OnlyB g w (wr.setCell ⟨g, t, none⟩ z)) := fun z => hB.trans (OnlyB.set g t wr z)
      rw [nth_joinTo _ _ _ _ _ (show t < zs.length by rw [Hn.out]; exact ht), if_neg (by omega)] at c1
      obtain ⟨z, Hz⟩ : ∃ z, Hid (nth zs t = z) := ⟨_, rfl⟩
      rw [Hz.out] at HS HP c1
      clear hl c3 Hz
      by_cases hz : z = x ∨ z = y
      · have key : ∀ m, m = min x y → Own B w0 (wr.setCell ⟨g, t, none⟩ (.int .i64 m)) (.slice (some ⟨g, 0, none⟩) n cap) (joinTo zs x y (t + 1)) := fun m hm => by rw [← HP.out hz m hm]; exact HO2.out m
        have Key : Hid _ := key
        clear key HS HP HO2 hO
        have ez : (z == x || z == y) = true := by simpa using hz
        rcases Int.lt_trichotomy x y with hxy | hxy | hxy
        · have R : Hid _ := Key.out x (by omega)
          rcases hz with rfl | rfl
          · go_wp2
            go_roundg (gk - 1)
            case measure => omega
            case rel => exact ⟨t + 1, by omega, by go_num, R.out, HB2.out _⟩
          · go_wp2
            go_roundg (gk - 1)
            case measure => omega
            case rel => exact ⟨t + 1, by omega, by go_num, R.out, HB2.out _⟩
        · subst hxy
          have R : Hid _ := Key.out x (by omega)
          obtain rfl : z = x := by rcases hz with q | q <;> exact q
          go_wp2
          go_roundg (gk - 1)
          case measure => omega
          case rel => exact ⟨t + 1, by omega, by go_num, R.out, HB2.out _⟩
        · have R : Hid _ := Key.out y (by omega)
          rcases hz with rfl | rfl
          · go_wp2
            go_roundg (gk - 1)
            case measure => omega
            case rel => exact ⟨t + 1, by omega, by go_num, R.out, HB2.out _⟩
          · go_wp2
            go_roundg (gk - 1)
            case measure => omega
            case rel => exact ⟨t + 1, by omega, by go_num, R.out, HB2.out _⟩
      · have R : Hid _ := HS.out hz
        have e1 : (z == x) = false := by rw [beq_eq_false_iff_ne]; exact fun q => hz (.inl q)
        have e2 : (z == y) = false := by rw [beq_eq_false_iff_ne]; exact fun q => hz (.inr q)
        rw [R.out] at hO
        clear HS HP HO2 HB2 hz R c2
        go_wp2
        go_roundg (gk - 1)
        case measure => omega
        case rel => exact ⟨t + 1, by omega, by go_num, hO, hB⟩
    · obtain rfl : t = n := by omega
      go_wp2
      go_end0
      exact ⟨rfl, hO, hB⟩

set_option maxHeartbeats 1000000 in
theorem part_any (v : Value) (zs : List Int) (f : Int) (w : World) (h : Ints w v zs) :
    Calls Try.prog 30 #[v, .int .i64 f] w fun e w' => ∃ r, e = .returned r ∧ Own w.heap.size w w' r (withHead (nth zs) f zs.length) := by
  obtain ⟨a, n, cap, rfl, hlen, hmx, hsh, _⟩ := id h
  have Hlen : Hid (zs.length = n) := hlen
  rw [hlen]
  clear hlen hsh
  go_enter Try.func30, Try.ntmps30
  go_wp2_with fail
  go_loopg [5, 10] n (fun gk l m' wr => ∃ m : Nat, m + gk = n ∧ m' = .int .i64 (m : Int) ∧ Own w.heap.size w wr l (withHead (nth zs) f m))
  case atStart => exact ⟨0, by omega, rfl, Own.nil _⟩
  case round =>
    obtain ⟨m, hmg, rfl, hO⟩ := hrel
    by_cases hmn : m < n
    · obtain ⟨b, off, rfl, _, cm⟩ := ints_atL (h.below hO.2.1) hmn
      have Hy : Hid (nth zs m = f → withHead (nth zs) f (m + 1) = withHead (nth zs) f m ++ [(m : Int)]) := withHead_yes (nth zs) f m
      have Hno : Hid (nth zs m ≠ f → withHead (nth zs) f (m + 1) = withHead (nth zs) f m) := withHead_no (nth zs) f m
      have hwl := withHead_le (nth zs) f m
      obtain ⟨x, Hx⟩ : ∃ x, Hid (nth zs m = x) := ⟨_, rfl⟩
      rw [Hx.out] at cm Hy Hno
      clear Hx
      by_cases hx : x = f
      · have R : Hid _ := Hy.out hx
        subst hx
        obtain ⟨la, ll, lc, rfl⟩ := hO.slice
        clear Hy Hno
        go_wp2_with (at_builtin; refine wp_append_int rfl _ _ rfl w.heap.size w _ _ _ (m : Int) hO rfl rfl (by omega) ?_; intro v' w5 hO5)
        go_roundg (gk - 1)
        case measure => omega
        case rel => exact ⟨m + 1, by omega, by go_num, by rw [R.out]; exact hO5⟩
      · have R : Hid _ := Hno.out hx
        have e1 : (x == f) = false := by rw [beq_eq_false_iff_ne]; exact hx
        clear Hy Hno hx
        go_wp2
        go_roundg (gk - 1)
        case measure => omega
        case rel => exact ⟨m + 1, by omega, by go_num, by rw [R.out]; exact hO⟩
    · obtain rfl : m = n := by omega
      go_wp2
      go_ret
      exact ⟨_, rfl, hO⟩

end Go.Proofs.Ytgedpebnipghlaa
