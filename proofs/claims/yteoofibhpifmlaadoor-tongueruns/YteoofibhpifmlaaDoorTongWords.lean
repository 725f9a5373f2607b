/- What is listed, plainly. -/
import Derived.Test.YteoofibhpifmlaaDoorTongList
namespace Go.Proofs.YteoofibhpifmlaaDoor
set_option linter.unusedVariables false
set_option maxRecDepth 4000

/-- The words so far: all that are shorter than k, and those among the first i of the level. -/
structure Got (n : NetL) (s : SpaceL) (E : List Int) (most : Int) (k : Nat) (L : List (List Int × SetL)) (i : Nat) (ws : List (List Int)) : Prop where
  up : ws.Pairwise SLex
  mem : ∀ x, x ∈ ws ↔ (ToEnd n s E 0 x ∧ (x.length : Int) ≤ most) ∧ (x.length < k ∨ ∃ (j : Nat) (h : j < L.length), j < i ∧ x = L[j].1)
theorem Got.start {n : NetL} {s : SpaceL} {E : List Int} {most : Int} {L : List (List Int × SetL)} : Got n s E most 0 L 0 [] := by
  refine ⟨List.Pairwise.nil, fun x => ⟨fun h => by simp at h, ?_⟩⟩
  rintro ⟨_, h | ⟨j, _, h, _⟩⟩ <;> omega
theorem Got.skip {n : NetL} {s : SpaceL} {E : List Int} {most : Int} {k i : Nat} {L : List (List Int × SetL)} {ws : List (List Int)} (h : Got n s E most k L i ws) (hi : i < L.length) (hno : ¬ ToEnd n s E 0 L[i].1) : Got n s E most k L (i + 1) ws := by
  refine ⟨h.up, fun x => ?_⟩
  rw [h.mem]
  constructor
  · rintro ⟨h1, h2 | ⟨j, hj, h2, h3⟩⟩
    · exact ⟨h1, .inl h2⟩
    · exact ⟨h1, .inr ⟨j, hj, by omega, h3⟩⟩
  · rintro ⟨h1, h2 | ⟨j, hj, h2, h3⟩⟩
    · exact ⟨h1, .inl h2⟩
    · by_cases e : j = i
      · subst e; rw [h3] at h1; exact absurd h1.1 hno
      · exact ⟨h1, .inr ⟨j, hj, by omega, h3⟩⟩
theorem Got.add {n : NetL} {s : SpaceL} {E : List Int} {t : TalkL} {most : Int} {k i : Nat} {L : List (List Int × SetL)} {ws : List (List Int)} (h : Got n s E most k L i ws) (hL : Level n s E t most k L) (hi : i < L.length) (hy : ToEnd n s E 0 L[i].1) : Got n s E most k L (i + 1) (ws ++ [L[i].1]) := by
  have hlen : ∀ j (hj : j < L.length), L[j].1.length = k := fun j hj => ((hL.mem _).1 (List.mem_map_of_mem (List.getElem_mem hj))).1
  have hm : (L[i].1.length : Int) ≤ most := by
    obtain ⟨r, _, hr⟩ := ((hL.mem _).1 (List.mem_map_of_mem (List.getElem_mem hi))).2
    simp only [List.length_append] at hr
    omega
  refine ⟨?_, fun x => ?_⟩
  · rw [List.pairwise_append]
    refine ⟨h.up, by simp, fun a ha b hb => ?_⟩
    rw [List.mem_singleton.1 hb]
    rcases ((h.mem a).1 ha).2 with q | ⟨j, hj, q1, rfl⟩
    · exact .inl (by rw [hlen i hi]; exact q)
    · have := (List.pairwise_iff_getElem.1 hL.up) j i (by simpa using hj) (by simpa using hi) q1
      simpa only [List.getElem_map] using this
  · rw [List.mem_append, h.mem, List.mem_singleton]
    constructor
    · rintro (⟨h1, h2 | ⟨j, hj, h2, h3⟩⟩ | rfl)
      · exact ⟨h1, .inl h2⟩
      · exact ⟨h1, .inr ⟨j, hj, by omega, h3⟩⟩
      · exact ⟨⟨hy, hm⟩, .inr ⟨i, hi, by omega, rfl⟩⟩
    · rintro ⟨h1, h2 | ⟨j, hj, h2, h3⟩⟩
      · exact .inl ⟨h1, .inl h2⟩
      · by_cases e : j = i
        · subst e; exact .inr h3
        · exact .inl ⟨h1, .inr ⟨j, hj, by omega, h3⟩⟩
theorem Got.next {n : NetL} {s : SpaceL} {E : List Int} {t : TalkL} {most : Int} {k : Nat} {L M : List (List Int × SetL)} {ws : List (List Int)} (h : Got n s E most k L L.length ws) (hL : Level n s E t most k L) : Got n s E most (k + 1) M 0 ws := by
  refine ⟨h.up, fun x => ?_⟩
  rw [h.mem]
  constructor
  · rintro ⟨h1, h2 | ⟨j, hj, h2, h3⟩⟩
    · exact ⟨h1, .inl (by omega)⟩
    · have := ((hL.mem _).1 (List.mem_map_of_mem (List.getElem_mem hj))).1
      exact ⟨h1, .inl (by rw [h3, this]; omega)⟩
  · rintro ⟨h1, h2 | ⟨j, hj, h2, h3⟩⟩
    · by_cases e : x.length < k
      · exact ⟨h1, .inl e⟩
      · have hx : x ∈ L.map (·.1) := (hL.mem x).2 ⟨by omega, [], by simpa using h1.1, by simpa using h1.2⟩
        obtain ⟨y, hy, rfl⟩ := List.mem_map.1 hx
        obtain ⟨j, hj, rfl⟩ := List.getElem_of_mem hy
        exact ⟨h1, .inr ⟨j, hj, hj, rfl⟩⟩
    · omega
theorem Got.done {n : NetL} {s : SpaceL} {E : List Int} {t : TalkL} {most : Int} {k : Nat} {ws : List (List Int)} (h : Got n s E most k [] 0 ws) (hL : Level n s E t most k []) : ∀ x, x ∈ ws ↔ ToEnd n s E 0 x ∧ (x.length : Int) ≤ most := by
  intro x
  rw [h.mem]
  constructor
  · rintro ⟨h1, _⟩; exact h1
  · intro h1
    refine ⟨h1, .inl (Nat.lt_of_not_le fun hk => ?_)⟩
    have := (hL.mem (x.take k)).2 ⟨by simp; omega, x.drop k, by rw [List.take_append_drop]; exact h1.1, by rw [List.take_append_drop]; exact h1.2⟩
    simp at this

/-- There are more than may be listed. -/
def FullW (W : List Int → Prop) (most : Int) : Prop := ∃ l : List (List Int), l.Nodup ∧ (∀ x ∈ l, W x ∧ (x.length : Int) ≤ most) ∧ 400 < l.length
theorem level_full {n : NetL} {s : SpaceL} {E : List Int} {t : TalkL} {most : Int} {k : Nat} {L : List (List Int × SetL)} (hL : Level n s E t most k L) (h : 400 < L.length) : FullW (ToEnd n s E 0) most := by
  have hex : ∀ x : List Int, ∃ y : List Int, (x ∈ L.map (·.1) → ToEnd n s E 0 y ∧ (y.length : Int) ≤ most ∧ y.take k = x) := by
    intro x
    by_cases hx : x ∈ L.map (·.1)
    · obtain ⟨h1, r, h2, h3⟩ := (hL.mem x).1 hx
      exact ⟨x ++ r, fun _ => ⟨h2, h3, by rw [← h1, List.take_left']; rfl⟩⟩
    · exact ⟨[], fun h => absurd h hx⟩
  obtain ⟨f, hf⟩ := Classical.axiomOfChoice hex
  refine ⟨(L.map (·.1)).map f, ?_, fun x hx => ?_, by simpa using h⟩
  · have hnd := slex_nodup hL.up
    rw [List.nodup_iff_pairwise_ne] at hnd ⊢
    rw [List.pairwise_map]
    refine hnd.imp_of_mem fun {a b} ha hb hne e => hne ?_
    have h1 := (hf a ha).2.2
    have h2 := (hf b hb).2.2
    rw [← h1, ← h2, e]
  · obtain ⟨y, hy, rfl⟩ := List.mem_map.1 hx
    exact ⟨(hf y hy).1, (hf y hy).2.1⟩
theorem got_full {n : NetL} {s : SpaceL} {E : List Int} {most : Int} {k i : Nat} {L : List (List Int × SetL)} {ws : List (List Int)} (h : Got n s E most k L i ws) (hl : 400 < ws.length) : FullW (ToEnd n s E 0) most :=
  ⟨ws, slex_nodup h.up, fun x hx => ((h.mem x).1 hx).1, hl⟩

/-- What Words tells of words W. -/
def ListsW (W : List Int → Prop) (most : Int) (l : List (List Int)) (d : Int) : Prop :=
  (FullW W most ∧ l = [] ∧ d = 4) ∨ (l.length ≤ 400 ∧ d = 0 ∧ l.Pairwise SLex ∧ ∀ x, x ∈ l ↔ W x ∧ (x.length : Int) ≤ most)
theorem ListsW.unique {W : List Int → Prop} {most : Int} {l l' : List (List Int)} {d d' : Int} (h : ListsW W most l d) (k : ListsW W most l' d') : l = l' ∧ d = d' := by
  have key : ∀ {m : List (List Int)}, FullW W most → m.length ≤ 400 → (∀ x, x ∈ m ↔ W x ∧ (x.length : Int) ≤ most) → False := by
    rintro m ⟨f, f1, f2, f3⟩ hm hx
    have := nodup_lists (l2 := m) f1 fun x hx' => (hx x).2 (f2 x hx')
    omega
  rcases h with ⟨h1, rfl, rfl⟩ | ⟨h1, rfl, h3, h4⟩ <;> rcases k with ⟨k1, rfl, rfl⟩ | ⟨k1, rfl, k3, k4⟩
  · exact ⟨rfl, rfl⟩
  · exact (key h1 k1 k4).elim
  · exact (key k1 h1 h4).elim
  · exact ⟨slex_unique h3 k3 fun x => by rw [h4, k4], rfl⟩
theorem FullW.congr {W V : List Int → Prop} {most : Int} (h : ∀ x, W x ↔ V x) : FullW W most ↔ FullW V most := by
  constructor
  · rintro ⟨l, h1, h2, h3⟩; exact ⟨l, h1, fun x hx => ⟨(h x).1 (h2 x hx).1, (h2 x hx).2⟩, h3⟩
  · rintro ⟨l, h1, h2, h3⟩; exact ⟨l, h1, fun x hx => ⟨(h x).2 (h2 x hx).1, (h2 x hx).2⟩, h3⟩
theorem ListsW.congr {W V : List Int → Prop} {most : Int} {l : List (List Int)} {d : Int} (h : ∀ x, W x ↔ V x) (hl : ListsW W most l d) : ListsW V most l d := by
  rcases hl with ⟨h1, h2⟩ | ⟨h1, h2, h3, h4⟩
  · exact .inl ⟨(FullW.congr h).1 h1, h2⟩
  · exact .inr ⟨h1, h2, h3, fun x => by rw [h4, h]⟩

structure WordsAns (n : NetL) (i o most : Int) (l : List (List Int)) (d : Int) : Prop where
  ex : ∃ d0, TongErr n i o d0 ∧ (¬ d0 = 0 → l = [] ∧ d = d0) ∧ (d0 = 0 → (¬ (0 ≤ most ∧ most ≤ 8) → l = [] ∧ d = 2) ∧ ((0 ≤ most ∧ most ≤ 8) → ListsW (WordI n i o) most l d))
theorem WordsAns.unique {n : NetL} {i o most : Int} {l l' : List (List Int)} {d d' : Int} (h : WordsAns n i o most l d) (k : WordsAns n i o most l' d') : l = l' ∧ d = d' := by
  obtain ⟨d0, h1, h2, h3⟩ := h.ex
  obtain ⟨e0, k1, k2, k3⟩ := k.ex
  obtain rfl := h1.unique k1
  by_cases hd : d0 = 0
  · by_cases hm : 0 ≤ most ∧ most ≤ 8
    · exact ((h3 hd).2 hm).unique ((k3 hd).2 hm)
    · obtain ⟨q1, q2⟩ := (h3 hd).1 hm
      obtain ⟨r1, r2⟩ := (k3 hd).1 hm
      exact ⟨by rw [q1, r1], by omega⟩
  · obtain ⟨q1, q2⟩ := h2 hd
    obtain ⟨r1, r2⟩ := k2 hd
    exact ⟨by rw [q1, r1], by omega⟩

end Go.Proofs.YteoofibhpifmlaaDoor
