/- Whether some knot has more tokens than marks may have, as the law CoverBounded asks it. -/
import Derived.Test.YtbpkebkblkjdhaaCoverBd2
namespace Go.Proofs.Ytbpkebkblkjdhaa
open Go.RowKit
set_option linter.unusedVariables false

set_option maxHeartbeats 1000000 in
theorem indexover_any (B : Nat) (v : Value) (l : List KnotL) (ms : List Value) (w : World) (h : KnotsOwn B w v l ms 0) :
    Calls Try.prog 39 #[v, .func (.func 21) #[] #[]] w fun e w' => ∃ i : Int, e = .returned (.int .i64 i) ∧ decide (0 ≤ i) = l.any overK ∧ Below B w w' := by
  obtain ⟨a, ca, rfl, hla, _⟩ := h.knots.slice
  obtain ⟨len, Hlen⟩ : ∃ len, Hid (l.length = len) := ⟨_, rfl⟩
  have hl3 : len ≤ 300 := by rw [← Hlen.out]; exact h.room
  rw [Hlen.out] at h hla ⊢
  go_enter Try.func39, Try.ntmps39
  go_wp2_with fail
  go_loopg [8] len (fun g i wr => ∃ k : Nat, k + g = len ∧ i = .int .i64 k ∧ KnotsOwn B wr (.slice a len ca) l ms k ∧ Below B w wr ∧ Hid (∀ j, j < k → overK (knotOf l j) = false))
  case atStart => exact ⟨0, by omega, rfl, h, Below.refl _ _, fun j hj => absurd hj (Nat.not_lt_zero _)⟩
  case round =>
    clear h
    obtain ⟨k, hkg, rfl, hK, hb, Hn⟩ := hrel
    by_cases hkn : k < len
    · have hkl : k < l.length := by have := Hlen.out; omega
      obtain ⟨g1, c1, e, k0, k1, k2⟩ := hK.cells hkl
      injection e with e1 e2 e3
      subst e1 e3
      clear e2
      obtain ⟨m1, m2⟩ := hK.marks k (Nat.le_refl _) hkl
      have Hnx : Hid (∀ w', wr.heap.size ≤ w'.heap.size → (∀ b, b < wr.heap.size → (valAt ms k).ownBlock ≠ some b → w'.heap[b]? = wr.heap[b]?) → KnotsOwn B w' (.slice (some ⟨g1, 0, none⟩) len ca) l ms (k + 1)) := fun w' h1 h2 => hK.next hkl h1 h2
      have hsz := hK.size
      obtain ⟨kn, Hkn⟩ : ∃ kn, Hid (knotOf l k = kn) := ⟨_, rfl⟩
      obtain ⟨uv, Huv⟩ : ∃ uv, Hid (valAt ms k = uv) := ⟨_, rfl⟩
      rw [Hkn.out] at k0 k1 m1 m2
      rw [Huv.out] at k2 m2 Hnx
      obtain ⟨au, lu, cu, rfl⟩ := ownsRow_slice m2
      clear hK
      go_wp2_with fail
      refine (bounded2_any B _ kn _ m1 hsz m2).mono ?_
      rintro e w2 ⟨rfl, b', s', h'⟩
      have R := hb.trans b'
      have RK := Hnx.out w2 s' h'
      cases hp : overK kn
      · have Hn2 : Hid (∀ j, j < k + 1 → overK (knotOf l j) = false) := fun j hj => by
          by_cases e : j = k
          · subst e; rw [Hkn.out]; exact hp
          · exact Hn.out j (by omega)
        clear b' hb m2 k0 k1 k2 hp h' Hnx
        go_wp2
        go_roundg (gk - 1)
        case measure => omega
        case rel => exact ⟨k + 1, by omega, by go_num, RK, R, Hn2⟩
      · have F : Hid (l.any overK = true) := anyK_of (k := k) hkl (by rw [Hkn.out]; exact hp)
        clear b' hb m2 k0 k1 k2 hp h' Hnx RK
        go_wp2
        go_ret
        exact ⟨_, rfl, by rw [F.out]; simp, R⟩
    · have F : Hid (l.any overK = false) := anyK_not fun j hj => Hn.out j (by have := Hlen.out; omega)
      go_wp2
      go_ret
      exact ⟨_, rfl, by rw [F.out]; simp, hb⟩

theorem containsover_any (B : Nat) (v : Value) (l : List KnotL) (ms : List Value) (w : World) (h : KnotsOwn B w v l ms 0) :
    Calls Try.prog 15 #[v, .func (.func 21) #[] #[]] w fun e w' => e = .returned (.bool (l.any overK)) ∧ Below B w w' := by
  go_enter Try.func15, Try.ntmps15
  go_wp2_with fail
  refine (indexover_any B _ l ms _ (by exact h)).mono ?_
  rintro e w1 ⟨i, rfl, hi, b⟩
  go_wp2
  go_ret
  exact ⟨rfl, b⟩

theorem over_of {s : List KnotX} {k p : Nat} (hk : k < s.length) (h : 1000000 < nth (knotAt s k).mark p) : (s.map KnotX.knot).any overK = true := by
  rw [List.any_eq_true]
  refine ⟨(knotAt s k).knot, List.mem_map.2 ⟨knotAt s k, by rw [knotAt_get hk]; exact List.getElem_mem hk, rfl⟩, ?_⟩
  have hp : p < (knotAt s k).mark.length := by
    rcases Nat.lt_or_ge p (knotAt s k).mark.length with q | q
    · exact q
    · rw [nth_past _ p q] at h; omega
  have e : nth ((knotAt s k).mark ++ [0]) p = nth (knotAt s k).mark p := by
    unfold nth; rw [List.getD_eq_getElem?_getD, List.getD_eq_getElem?_getD, List.getElem?_append_left hp]
  have := maxTo_ge ((knotAt s k).mark ++ [0]) (((knotAt s k).mark ++ [0]).length - 1) p (by simp; omega)
  rw [e] at this
  show decide (1000000 < maxL ((knotAt s k).mark ++ [0])) = true
  rw [decide_eq_true_eq]
  unfold maxL
  omega

end Go.Proofs.Ytbpkebkblkjdhaa
