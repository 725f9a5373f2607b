/- slices.Reverse over a slice of ints that the call itself has made. -/
import Derived.Test.YtkdbkoogcndlgaaGr10
import Derived.BigRegion
namespace Go.Proofs.Ytkdbkoogcndlgaa
open Go.RowKit
set_option linter.unusedVariables false
set_option maxRecDepth 4000

/-- The first k changed for the last k. -/
def swapTo (zs : List Int) : Nat → List Int
  | 0 => zs
  | k + 1 => ((swapTo zs k).set k (nth (swapTo zs k) (zs.length - 1 - k))).set (zs.length - 1 - k) (nth (swapTo zs k) k)

theorem swapTo_length (zs : List Int) (k : Nat) : (swapTo zs k).length = zs.length := by
  induction k with
  | zero => rfl
  | succ k ih => simp [swapTo, ih]

theorem nth_set (xs : List Int) (i : Nat) (x : Int) (p : Nat) (hi : i < xs.length) : nth (xs.set i x) p = if p = i then x else nth xs p := by
  by_cases h : p = i
  · subst h; simp [nth, List.getD, hi]
  · rw [if_neg h]
    simp [nth, List.getD, Ne.symm h]

theorem swapTo_nth (zs : List Int) (k : Nat) (hk : 2 * k ≤ zs.length) (p : Nat) (hp : p < zs.length) :
    nth (swapTo zs k) p = if p < k ∨ zs.length - k ≤ p then nth zs (zs.length - 1 - p) else nth zs p := by
  induction k generalizing p with
  | zero => rw [if_neg (by omega)]; rfl
  | succ k ih =>
    have i1 := ih (by omega)
    rw [swapTo, nth_set _ _ _ _ (by simp [swapTo_length]; omega), nth_set _ _ _ _ (by rw [swapTo_length]; omega)]
    by_cases h1 : p = zs.length - 1 - k
    · rw [if_pos h1, if_pos (by omega), i1 k (by omega), if_neg (by omega)]
      congr 1; omega
    · rw [if_neg h1]
      by_cases h2 : p = k
      · rw [if_pos h2, if_pos (by omega), i1 _ (by omega), if_neg (by omega)]
        congr 1; omega
      · rw [if_neg h2, i1 p hp]
        by_cases h3 : p < k ∨ zs.length - k ≤ p
        · rw [if_pos h3, if_pos (by omega)]
        · rw [if_neg h3, if_neg (by omega)]

theorem nth_eq {xs ys : List Int} (hl : xs.length = ys.length) (h : ∀ j, j < xs.length → nth xs j = nth ys j) : xs = ys := by
  refine List.ext_getElem hl fun i h1 h2 => ?_
  have := h i h1
  simpa [nth, List.getD, List.getElem?_eq_getElem h1, List.getElem?_eq_getElem h2] using this

theorem swapTo_reverse (zs : List Int) (k : Nat) (hk : 2 * k ≤ zs.length) (hk2 : zs.length ≤ 2 * k + 1) : swapTo zs k = zs.reverse := by
  refine nth_eq (by simp [swapTo_length]) fun j hj => ?_
  rw [swapTo_length] at hj
  rw [swapTo_nth zs k hk j hj]
  have e : nth zs.reverse j = nth zs (zs.length - 1 - j) := by
    simp [nth, List.getD, List.getElem?_reverse hj]
  rw [e]
  by_cases h : j < k ∨ zs.length - k ≤ j
  · rw [if_pos h]
  · rw [if_neg h]; congr 1; omega

set_option maxHeartbeats 1000000 in
theorem reverse_any (B : Nat) (w0 : World) (v : Value) (zs : List Int) (w : World) (h : Own B w0 w v zs) (hm : zs.length ≤ 17592186044416) :
    Calls Try.prog 64 #[v] w fun e w' => e = .returned (.tuple #[]) ∧ Own B w0 w' v zs.reverse := by
  by_cases h1 : zs.length ≤ 1
  · have e : zs.reverse = zs := by
      rw [← swapTo_reverse zs 0 (by omega) (by omega)]; rfl
    rw [e]
    obtain ⟨a, len, cap, rfl, hlen, _, _, _⟩ := h.ints hm
    have hl1 : len ≤ 1 := by omega
    go_enter Try.func64, Try.ntmps64
    go_wp2
    refine wp_loop_rounds 1 ?_
    rw [rounds_succ]
    go_wp2
    go_end0
    exact ⟨rfl, h⟩
  · obtain ⟨hown, hb, hB⟩ := h
    obtain ⟨g, cap, rfl, hgB⟩ : ∃ g cap, v = .slice (some ⟨g, 0, none⟩) zs.length cap ∧ B ≤ g := by
      obtain ⟨_, hcase⟩ := hown
      rcases hcase with ⟨_, h0⟩ | ⟨g, cap', cur, rfl, hg, _⟩
      · omega
      · exact ⟨g, cap', rfl, hg⟩
    obtain ⟨len, Hlen⟩ : ∃ len, Hid (zs.length = len) := ⟨_, rfl⟩
    have hle : len ≤ 17592186044416 := by rw [← Hlen.out]; exact hm
    have hl2 : ¬ len ≤ 1 := by rw [← Hlen.out]; exact h1
    rw [Hlen.out] at hown ⊢
    clear hm h1
    go_enter Try.func64, Try.ntmps64
    go_wp2
    go_loopg [2, 3] len (fun gq i j wr => ∃ k q : Nat, k + gq = len ∧ i = .int .i64 k ∧ j = .int .i64 q ∧ q + k + 1 = len ∧ k ≤ q + 1 ∧ wr.ownsRow B 3 1 (.slice (some ⟨g, 0, none⟩) len cap) len ((swapTo zs k).map (Value.int .i64)) ∧ Below B w0 wr ∧ B ≤ wr.heap.size)
    case atStart => exact ⟨0, len - 1, by omega, rfl, by congr 1; omega, by omega, by omega, hown, hb, hB⟩
    case round =>
      clear hown hb hB
      obtain ⟨k, q, hkg, rfl, rfl, hkq, hk1, hown, hb, hB⟩ := hrel
      by_cases hlt : k < q
      · have hL := swapTo_length zs k
        have c1 : wr.cell? ⟨g, k, none⟩ = some (.int .i64 (nth (swapTo zs k) k)) := by
          rw [hown.cellAt k (by omega)]
          have := Hlen.out
          simp [nth, List.getD, List.getElem?_eq_getElem (show k < (swapTo zs k).length by omega)]
        have c2 : wr.cell? ⟨g, q, none⟩ = some (.int .i64 (nth (swapTo zs k) q)) := by
          rw [hown.cellAt q (by omega)]
          have := Hlen.out
          simp [nth, List.getD, List.getElem?_eq_getElem (show q < (swapTo zs k).length by omega)]
        have f1 := hown.frozenAt k
        have f2 := hown.frozenAt q
        have hne : ¬ k = q := by omega
        have hne2 : ¬ q = k := by omega
        have hkl : k < len := by omega
        have hql : q < len := by omega
        have st := (hown.stored k (.int .i64 (nth (swapTo zs k) q))).1.stored q (.int .i64 (nth (swapTo zs k) k))
        have HR : Hid (((wr.setCell ⟨g, k, none⟩ (.int .i64 (nth (swapTo zs k) q))).setCell ⟨g, q, none⟩ (.int .i64 (nth (swapTo zs k) k))).ownsRow B 3 1 (.slice (some ⟨g, 0, none⟩) len cap) len ((swapTo zs (k + 1)).map (Value.int .i64))) := by
          have e : zs.length - 1 - k = q := by have := Hlen.out; omega
          have e2 : (swapTo zs (k + 1)).map (Value.int .i64) = (((swapTo zs k).map (Value.int .i64)).set k (.int .i64 (nth (swapTo zs k) q))).set q (.int .i64 (nth (swapTo zs k) k)) := by
            rw [swapTo, e, List.map_set, List.map_set]
          rw [e2]
          exact st.1
        have HB : Hid (Below B w0 ((wr.setCell ⟨g, k, none⟩ (.int .i64 (nth (swapTo zs k) q))).setCell ⟨g, q, none⟩ (.int .i64 (nth (swapTo zs k) k)))) :=
          (hb.setCell (p := ⟨g, k, none⟩) hgB _).setCell (p := ⟨g, q, none⟩) hgB _
        clear st hown hb hL
        go_wp2
        go_region
        all_goals go_wp2
        go_roundg (gk - 1)
        case measure => omega
        case rel => exact ⟨k + 1, q - 1, by omega, by go_num, by congr 1; omega, by omega, by omega, HR.out.drew, HB.out.drew, by simpa [World.setCell] using hB⟩
      · have e : swapTo zs k = zs.reverse := swapTo_reverse zs k (by have := Hlen.out; omega) (by have := Hlen.out; omega)
        rw [e] at hown
        have hl : zs.reverse.length = len := by rw [List.length_reverse]; exact Hlen.out
        go_wp2
        go_end0
        exact ⟨rfl, by rw [hl]; exact hown, hb, hB⟩

end Go.Proofs.Ytkdbkoogcndlgaa
