/- The order of words: shorter ones first, then letter by letter. -/
import Derived.Test.YteoofibhpifmlaaDoorBase
namespace Go.Proofs.YteoofibhpifmlaaDoor
set_option linter.unusedVariables false
set_option maxRecDepth 4000

/-- Letter by letter. -/
def LexI : List Int → List Int → Prop
  | a :: u, b :: v => a < b ∨ (a = b ∧ LexI u v)
  | _, _ => False
/-- Shorter, or as long and less. -/
def SLex (u v : List Int) : Prop := u.length < v.length ∨ (u.length = v.length ∧ LexI u v)

theorem LexI.irrefl : ∀ (u : List Int), ¬ LexI u u
  | [], h => h
  | a :: u, h => by rcases h with h | ⟨_, h⟩; exact absurd h (Int.lt_irrefl _); exact LexI.irrefl u h
theorem LexI.trans : ∀ {u v x : List Int}, LexI u v → LexI v x → LexI u x
  | a :: u, b :: v, c :: x, h, k => by
    rcases h with h | ⟨rfl, h⟩ <;> rcases k with k | ⟨rfl, k⟩
    · exact .inl (Int.lt_trans h k)
    · exact .inl h
    · exact .inl k
    · exact .inr ⟨rfl, h.trans k⟩
  | [], _, _, h, _ => h.elim
  | _ :: _, [], _, h, _ => h.elim
  | _ :: _, _ :: _, [], _, k => k.elim
theorem LexI.total : ∀ {u v : List Int}, u.length = v.length → LexI u v ∨ u = v ∨ LexI v u
  | [], [], _ => .inr (.inl rfl)
  | a :: u, b :: v, h => by
    rcases Int.lt_trichotomy a b with q | rfl | q
    · exact .inl (.inl q)
    · rcases LexI.total (u := u) (v := v) (by simpa using h) with r | rfl | r
      · exact .inl (.inr ⟨rfl, r⟩)
      · exact .inr (.inl rfl)
      · exact .inr (.inr (.inr ⟨rfl, r⟩))
    · exact .inr (.inr (.inl q))
  | [], _ :: _, h => by simp at h
  | _ :: _, [], h => by simp at h
theorem LexI.snoc {a b : Int} : ∀ {u v : List Int}, LexI u v → LexI (u ++ [a]) (v ++ [b])
  | x :: u, y :: v, h => by
    rcases h with h | ⟨rfl, h⟩
    · exact .inl h
    · exact .inr ⟨rfl, h.snoc⟩
  | [], _, h => h.elim
  | _ :: _, [], h => h.elim
theorem LexI.last {a b : Int} (h : a < b) : ∀ (u : List Int), LexI (u ++ [a]) (u ++ [b])
  | [] => .inl h
  | x :: u => .inr ⟨rfl, LexI.last h u⟩
theorem SLex.irrefl (u : List Int) : ¬ SLex u u := fun h => by
  rcases h with h | ⟨_, h⟩
  · omega
  · exact LexI.irrefl u h
theorem SLex.trans {u v x : List Int} (h : SLex u v) (k : SLex v x) : SLex u x := by
  rcases h with h | ⟨h1, h2⟩ <;> rcases k with k | ⟨k1, k2⟩
  · exact .inl (by omega)
  · exact .inl (by omega)
  · exact .inl (by omega)
  · exact .inr ⟨by omega, h2.trans k2⟩
theorem SLex.asymm {u v : List Int} (h : SLex u v) : ¬ SLex v u := fun k => SLex.irrefl u (h.trans k)
theorem SLex.len {u v : List Int} (h : SLex u v) : u.length ≤ v.length := by rcases h with h | ⟨h, _⟩ <;> omega
/-- A list that rises is one by its members. -/
theorem slex_unique : ∀ {l m : List (List Int)}, l.Pairwise SLex → m.Pairwise SLex → (∀ x, x ∈ l ↔ x ∈ m) → l = m
  | [], [], _, _, _ => rfl
  | [], y :: m, _, _, h => by have := (h y).2 (by simp); cases this
  | x :: l, [], _, _, h => by have := (h x).1 (by simp); cases this
  | x :: l, y :: m, hl, hm, h => by
    obtain ⟨l1, l2⟩ := List.pairwise_cons.1 hl
    obtain ⟨m1, m2⟩ := List.pairwise_cons.1 hm
    have e : x = y := by
      rcases List.mem_cons.1 ((h x).1 (by simp)) with q | q
      · exact q
      · rcases List.mem_cons.1 ((h y).2 (by simp)) with r | r
        · exact r.symm
        · exact absurd (m1 x q) (l1 y r).asymm
    subst e
    rw [slex_unique l2 m2 fun z => ?_]
    constructor
    · intro hz
      rcases List.mem_cons.1 ((h z).1 (List.mem_cons_of_mem _ hz)) with q | q
      · subst q; exact absurd (l1 z hz) (SLex.irrefl z)
      · exact q
    · intro hz
      rcases List.mem_cons.1 ((h z).2 (List.mem_cons_of_mem _ hz)) with q | q
      · subst q; exact absurd (m1 z hz) (SLex.irrefl z)
      · exact q
theorem slex_nodup {l : List (List Int)} (h : l.Pairwise SLex) : l.Nodup := h.imp fun {a b} q e => by subst e; exact SLex.irrefl a q
theorem nodup_lists {l1 : List (List Int)} : ∀ {l2 : List (List Int)}, l1.Nodup → (∀ x ∈ l1, x ∈ l2) → l1.length ≤ l2.length := by
  induction l1 with
  | nil => intro l2 _ _; exact Nat.zero_le _
  | cons x l1 ih =>
    intro l2 hn hs
    obtain ⟨h1, h2⟩ := List.nodup_cons.1 hn
    have := ih (l2 := l2.erase x) h2 fun y hy => (List.mem_erase_of_ne (fun e => h1 (by rw [← e]; exact hy))).2 (hs y (by simp [hy]))
    rw [List.length_erase_of_mem (hs x (by simp))] at this
    have h0 : 0 < l2.length := List.length_pos_of_mem (hs x (by simp))
    simp only [List.length_cons]
    omega

end Go.Proofs.YteoofibhpifmlaaDoor
