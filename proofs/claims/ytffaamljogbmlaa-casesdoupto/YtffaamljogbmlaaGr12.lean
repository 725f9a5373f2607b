import Derived.Test.YtffaamljogbmlaaGr05
import Derived.Test.YtffaamljogbmlaaFresh2
import Derived.Test.YtffaamljogbmlaaGr01
/- Answers that lie in blocks that the call itself has made. -/
namespace Go.Proofs.Ytffaamljogbmlaa
open Go.RowKit
set_option linter.unusedVariables false
set_option maxRecDepth 4000

/-- A slice whose numbers, if it has any, lie in a block from B on. -/
def SlFrom (B : Nat) (v : Value) : Prop := ∀ b off l c, v = .slice (some ⟨b, off, none⟩) l c → 0 < l → B ≤ b
theorem SlFrom.nil (B : Nat) : SlFrom B (.slice none 0 0) := fun _ _ _ _ e => by cases e
theorem SlFrom.mono {B B' : Nat} {v : Value} (h : SlFrom B v) (hb : B' ≤ B) : SlFrom B' v := fun b off l c e hl => Nat.le_trans hb (h b off l c e hl)
theorem SlFrom.at {B b off l c : Nat} (h : B ≤ b) : SlFrom B (.slice (some ⟨b, off, none⟩) l c) := fun b' off' l' c' e _ => by
  injection e with e1 _ _
  injection e1 with e1
  injection e1 with e1 _ _
  omega
theorem on_from {B : Nat} {w : World} {v : Value} {xs : List Int} (h : On (fun k => B ≤ k) w (fun w' => Ints w' v xs)) : SlFrom B v := by
  intro b off l c e hl
  subst e
  rcases Nat.lt_or_ge b B with hlt | hge
  · exfalso
    have h1 := h { w with heap := w.heap.setIfInBounds b (.cells #[] 0 (0, 0)) } (by simp) (fun k hk hD => by
      show (w.heap.setIfInBounds b _)[k]? = _
      rw [Array.getElem?_setIfInBounds_ne (by omega)])
    obtain ⟨a', len', cap', e, hl', _, _, hr⟩ := h1
    injection e with e1 e2 _
    subst e2
    obtain ⟨b', off', ha, hlt', hc⟩ := hr 0 (by omega)
    rw [← e1] at ha
    injection ha with ha
    injection ha with ha1 ha2
    subst ha1
    have hb : b < (w.heap.setIfInBounds b (.cells #[] 0 (0, 0))).size := hlt'
    have hcell : (w.heap.setIfInBounds b (.cells #[] 0 (0, 0)))[b]? = some (.cells #[] 0 (0, 0)) := by
      rw [Array.getElem?_setIfInBounds_self_of_lt (by simpa using hb)]
    simp [World.cell?, hcell] at hc
  · exact hge
theorem own_from {B : Nat} {w wr : World} {v : Value} {zs : List Int} (h : Own B w wr v zs) : SlFrom B v := by
  intro b off l c e hl
  subst e
  obtain ⟨_, hc⟩ := h.1
  rcases hc with ⟨e, _⟩ | ⟨g, cap, cur, e, hg, _⟩
  · cases e
  · injection e with e1 _ _
    injection e1 with e1
    injection e1 with e1 _ _
    omega
/-- A store ahead of it leaves it. -/
theorem Ints.setLow {B : Nat} {w : World} {v : Value} {xs : List Int} (h : Ints w v xs) (hf : SlFrom B v) {p : Addr} (hp : p.block < B) (u : Value) : Ints (w.setCell p u) v xs := by
  obtain ⟨a, len, cap, rfl, hl, hm, hs, hr⟩ := h
  refine ⟨a, len, cap, rfl, hl, hm, hs, fun j hj => ?_⟩
  obtain ⟨b, off, ha, hlt, hc⟩ := hr j hj
  have := hf b off len cap (by rw [ha]) (by omega)
  exact ⟨b, off, ha, by simpa [World.setCell] using hlt, by rw [World.cell?_setCell_other _ _ _ _ (by intro q; rw [q] at hp; have hp : b < B := hp; omega)]; exact hc⟩
/-- So does whatever leaves the blocks from B on. -/
theorem Ints.toLow {B : Nat} {w w' : World} {v : Value} {xs : List Int} (h : Ints w v xs) (hf : SlFrom B v) (hs : w.heap.size ≤ w'.heap.size) (hk : ∀ k, k < w.heap.size → B ≤ k → w'.heap[k]? = w.heap[k]?) : Ints w' v xs := by
  obtain ⟨a, len, cap, rfl, hl, hm, hs', hr⟩ := h
  refine ⟨a, len, cap, rfl, hl, hm, hs', fun j hj => ?_⟩
  obtain ⟨b, off, ha, hlt, hc⟩ := hr j hj
  have := hf b off len cap (by rw [ha]) (by omega)
  exact ⟨b, off, ha, Nat.lt_of_lt_of_le hlt hs, by rw [cell_kept (p := ⟨b, off + j, none⟩) (hk b hlt this)]; exact hc⟩

def CaseFrom (B : Nat) (r : Value) : Prop := ∃ x y, r = .agg #[x, y] ∧ SlFrom B x ∧ SlFrom B y
theorem CaseFrom.none (B : Nat) : CaseFrom B (.agg #[.slice none 0 0, .slice none 0 0]) := ⟨_, _, rfl, SlFrom.nil B, SlFrom.nil B⟩
theorem CaseFrom.mono {B B' : Nat} {v : Value} (h : CaseFrom B v) (hb : B' ≤ B) : CaseFrom B' v := by
  obtain ⟨x, y, e, h1, h2⟩ := h
  exact ⟨x, y, e, h1.mono hb, h2.mono hb⟩
theorem CaseFrom.parts {B : Nat} {x y : Value} (h : CaseFrom B (.agg #[x, y])) : SlFrom B x ∧ SlFrom B y := by
  obtain ⟨x', y', e, h1, h2⟩ := h
  injection e with e
  injection e with e
  injection e with e1 e
  injection e with e2 _
  subst e1 e2
  exact ⟨h1, h2⟩
/-- What a call answers that makes a case anew, or tells why not. -/
def GivesCF (w : World) (p : CaseL × Int) (e : Ending) (w' : World) : Prop := ∃ r, e = .returned (.tuple #[r, .int .i64 p.2]) ∧ CaseV w' r p.1 ∧ CaseFrom w.heap.size r ∧ Below w.heap.size w w'
theorem givesCF_of {w w' : World} {r : Value} {p : CaseL × Int} {c : CaseL} {d : Int} (hp : p = (c, d)) (hr : CaseV w' r c) (hf : CaseFrom w.heap.size r) (hb : Below w.heap.size w w') : GivesCF w p (.returned (.tuple #[r, .int .i64 d])) w' := by
  subst hp; exact ⟨r, rfl, hr, hf, hb⟩
theorem GivesCF.gives {w w' : World} {p : CaseL × Int} {e : Ending} (h : GivesCF w p e w') : GivesC w p e w' := by
  obtain ⟨r, h1, h2, _, h3⟩ := h
  exact ⟨r, h1, h2, h3⟩

set_option maxHeartbeats 400000 in
theorem minus_own (v u : Value) (xs ys : List Int) (w : World) (hv : Ints w v xs) (hu : Ints w u ys) :
    Calls Try.prog 54 #[v, u] w fun e w' => GivesO w (minusL xs ys) e w' := by
  go_enter Try.func54, Try.ntmps54
  go_wp2_with fail
  refine (right_any _ xs _ hv).mono ?_
  rintro e w' ⟨rfl, rfl⟩
  cases hx : rightL xs
  · go_wp2
    go_ret2
    exact givesO_of (minusL_range1 hx) (on_nil _ _) (Below.refl _ _)
  · go_wp2_with fail
    refine (right_any _ ys _ hu).mono ?_
    rintro e w' ⟨rfl, rfl⟩
    cases hy : rightL ys
    · go_wp2
      go_ret2
      exact givesO_of (minusL_range2 hy) (on_nil _ _) (Below.refl _ _)
    · go_wp2_with fail
      refine (covers_any _ _ xs ys _ hv hu).mono ?_
      rintro e w' ⟨rfl, rfl⟩
      cases hc : coversL xs ys
      · go_wp2
        go_ret2
        exact givesO_of (minusL_none hx hy hc) (on_nil _ _) (Below.refl _ _)
      · go_wp2_with fail
        refine (joined_own 65 _ minus1_any Try.call65 _ _ xs ys _ hv hu hx hy).mono ?_
        rintro e w1 ⟨r, rfl, hr, hb⟩
        go_wp2
        go_ret2
        exact givesO_of (minusL_ok hx hy hc) hr hb

end Go.Proofs.Ytffaamljogbmlaa

/- What the document mixes lies in a block of its own. -/
namespace Go.Proofs.Ytffaamljogbmlaa
open Go.RowKit
set_option linter.unusedVariables false
set_option maxRecDepth 4000

set_option maxHeartbeats 400000 in
theorem amix_from (t : Int) (ht : t = 1 ∨ t = -1) (v u : Value) (xs ys : List Int) (w : World) (hv : Ints w v xs) (hu : Ints w u ys) (rx : rightL xs = true) (ry : rightL ys = true) :
    Calls Try.prog 33 #[v, u, .int .i64 t] w fun e w' => ∃ r, e = .returned r ∧ Ints w' r (zipL (mixL t) xs ys) ∧ SlFrom w.heap.size r ∧ Below w.heap.size w w' := by
  have hv' := hv
  have hu' := hu
  obtain ⟨a, la, ca, rfl, hla, hma, hsa, hra⟩ := hv
  obtain ⟨b, lb, cb, rfl, hlb, hmb, hsb, hrb⟩ := hu
  obtain ⟨n, Hn⟩ : ∃ n : Nat, max xs.length ys.length = n := ⟨_, rfl⟩
  have HZ : Hid (zipL (mixL t) xs ys = zipTo (mixL t) xs ys n) := by show _ = _; unfold zipL zipTo; rw [Hn]
  have HX := fun j => okTok_nth rx j
  have HY := fun j => okTok_nth ry j
  have ht1 : -1 ≤ t ∧ t ≤ 1 := by omega
  have HT : Hid (t = 1 ∨ t = -1) := ht
  clear hra hrb rx ry ht
  by_cases hlt : la < lb
  case' pos => obtain rfl : n = lb := by omega
  case' neg => obtain rfl : n = la := by omega
  all_goals
    clear Hn hla hlb
    go_enter Try.func33, Try.ntmps33
    go_wp2
    go_loopw [7, 14] (fun o i wr => ∃ k : Nat, k ≤ n ∧ i = .int .i64 k ∧ Own w.heap.size w wr o (zipTo (mixL t) xs ys k)) (fun _ i _ => n - (intOf i).toNat)
    case atStart => exact ⟨0, Nat.zero_le _, rfl, Own.nil _⟩
    case round =>
      obtain ⟨k, hk, rfl, hG⟩ := hrel
      obtain ⟨hx1, hx2⟩ := HX k
      obtain ⟨hy1, hy2⟩ := HY k
      clear HX HY
      by_cases hkn : k < n
      · have hm : Hid (mixL t (nth xs k) (nth ys k) = nth xs k + t * nth ys k) := rfl
        have ht2 : -1000000 ≤ t * nth ys k ∧ t * nth ys k ≤ 1000000 := by rcases HT.out with h | h <;> rw [h] <;> omega
        go_wp2_with fail
        refine (aat_any _ xs k _ (by exact hv'.below hG.2.1)).mono ?_
        rintro e w' ⟨rfl, rfl⟩
        go_wp2_with fail
        refine (aat_any _ ys k _ (by exact hu'.below hG.2.1)).mono ?_
        rintro e w' ⟨rfl, rfl⟩
        have hlen := zipTo_length (mixL t) xs ys k
        go_wp2_with (at_builtin; refine wp_append_int rfl _ _ rfl w.heap.size w _ _ _ (nth xs k + t * nth ys k) hG rfl rfl (by rw [hlen]; omega) ?_; intro v' w1 hG')
        have R : Own w.heap.size w w1 v' (zipTo (mixL t) xs ys (k + 1)) := by rw [zipTo_succ]; exact hG'
        clear hG hG'
        go_wp2
        go_roundw
        case rel => exact ⟨k + 1, by omega, by go_num, R⟩
        case measure => simp [intOf]; omega
      · obtain rfl : k = n := by omega
        go_wp2
        go_ret
        exact ⟨_, rfl, by rw [HZ.out]; exact hG.ints (by rw [zipTo_length]; omega), own_from hG, hG.2.1⟩

end Go.Proofs.Ytffaamljogbmlaa
