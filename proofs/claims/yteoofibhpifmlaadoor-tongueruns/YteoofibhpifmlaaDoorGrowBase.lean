/- Plain words for what grows of blocks, and that it is a piece of a net. -/
import Derived.Test.YteoofibhpifmlaaDoorGrowPiece
import Derived.Test.YteoofibhpifmlaaDoorBlockBase
namespace Go.Proofs.YteoofibhpifmlaaDoor
set_option linter.unusedVariables false
set_option maxRecDepth 4000

/-- What has grown: how many places, and the links. -/
structure GrowL where
  places : Nat
  links : List LinkL

def putG (g : GrowL) (label : Int) (a b : List Nat) : GrowL := ⟨g.places, g.links ++ [⟨label, a, b⟩]⟩
def insG (n x : Nat) : List Nat := (List.range n).map fun i => x + 2 * i
def outsG (n x : Nat) : List Nat := (List.range n).map fun i => x + 2 * i + 1
abbrev GrowT := BlockL → Nat → Nat → GrowL → GrowL
def growSeq (K : GrowT) : List BlockL → Nat → Nat → GrowL → GrowL
  | [], _, _, g => g
  | [k], p, q, g => K k p q g
  | k :: k2 :: ks, p, q, g => growSeq K (k2 :: ks) g.places q (K k p g.places ⟨g.places + 1, g.links⟩)
def growAlt (K : GrowT) : List BlockL → Nat → Nat → GrowL → GrowL
  | [], _, _, g => g
  | k :: ks, p, q, g => growAlt K ks p q (K k p q g)
def growBoth (K : GrowT) : List BlockL → Nat → GrowL → GrowL
  | [], _, g => g
  | k :: ks, x, g => growBoth K ks (x + 2) (K k x (x + 1) g)
def noBlock : BlockL := ⟨0, 0, []⟩
def kidB (b : BlockL) (j : Nat) : BlockL := b.kids.getD j noBlock
def growF (K : GrowT) (b : BlockL) (p q : Nat) (g : GrowL) : GrowL :=
  if b.kind = 1 then putG g 0 [p] [q] else if b.kind = 2 then putG g b.label [p] [q]
  else if b.kind = 3 then growSeq K b.kids p q g
  else if b.kind = 4 then growAlt K b.kids p q g
  else if b.kind = 5 then putG (growBoth K b.kids g.places (putG ⟨g.places + 2 * b.kids.length, g.links⟩ 0 [p] (insG b.kids.length g.places))) 0 (outsG b.kids.length g.places) [q]
  else putG (K (kidB b 1) (g.places + 1) g.places (K (kidB b 0) g.places (g.places + 1) (putG ⟨g.places + 2, g.links⟩ 0 [p] [g.places]))) 0 [g.places + 1] [q]
def growK : Nat → GrowT
  | 0, _, _, _, g => g
  | f + 1, b, p, q, g => growF (growK f) b p q g

theorem insG_succ (n x : Nat) : insG (n + 1) x = [x] ++ insG n (x + 2) := by
  simp only [insG, List.range_succ_eq_map, List.map_cons, List.map_map, List.singleton_append]
  congr 1
  apply List.map_congr_left
  intro i _
  simp only [Function.comp]
  omega
theorem outsG_succ (n x : Nat) : outsG (n + 1) x = [x + 1] ++ outsG n (x + 2) := by
  simp only [outsG, List.range_succ_eq_map, List.map_cons, List.map_map, List.singleton_append]
  congr 1
  apply List.map_congr_left
  intro i _
  simp only [Function.comp]
  omega
theorem mem_insG {n x r : Nat} : r ∈ insG n x → x ≤ r ∧ r < x + 2 * n := by
  simp only [insG, List.mem_map, List.mem_range]
  rintro ⟨i, h, rfl⟩
  omega
theorem mem_outsG {n x r : Nat} : r ∈ outsG n x → x ≤ r ∧ r < x + 2 * n := by
  simp only [outsG, List.mem_map, List.mem_range]
  rintro ⟨i, h, rfl⟩
  omega
theorem all_insG {n x r : Nat} (h : x ≤ r) (h2 : r < x + 2 * n) : r ∈ insG n x ∨ r ∈ outsG n x := by
  simp only [insG, outsG, List.mem_map, List.mem_range]
  rcases Nat.mod_two_eq_zero_or_one (r - x) with e | e
  · exact .inl ⟨(r - x) / 2, by omega, by omega⟩
  · exact .inr ⟨(r - x) / 2, by omega, by omega⟩
theorem insG_ne {n x : Nat} (h : n ≠ 0) : insG n x ≠ [] := by
  obtain ⟨m, rfl⟩ : ∃ m, n = m + 1 := ⟨n - 1, by omega⟩
  rw [insG_succ]; simp
theorem outsG_ne {n x : Nat} (h : n ≠ 0) : outsG n x ≠ [] := by
  obtain ⟨m, rfl⟩ : ∃ m, n = m + 1 := ⟨n - 1, by omega⟩
  rw [outsG_succ]; simp

theorem Piece.of {L : List LinkL} {I J : Nat → Prop} {S E : List Nat} {St : MarkF → Prop} (h : Piece L I S E St) (e : ∀ r, I r ↔ J r) : Piece L J S E St := by
  have : I = J := funext fun r => propext (e r)
  rw [← this]; exact h

def Span (x c r : Nat) : Prop := x ≤ r ∧ r < x + c

/-- A block that grows into a piece, between whatever places. -/
def GrowsOk (K : GrowT) (b : BlockL) : Prop := ∀ p q g, p < g.places → q < g.places → p ≠ q → ∃ c L St, K b p q g = ⟨g.places + c, g.links ++ L⟩ ∧ L ≠ [] ∧ Piece L (Span g.places c) [p] [q] St

theorem seq_grows {K : GrowT} : ∀ {l : List BlockL} {p q : Nat} {g : GrowL}, (∀ k ∈ l, GrowsOk K k) → l ≠ [] → p < g.places → q < g.places → p ≠ q →
    ∃ c L St, growSeq K l p q g = ⟨g.places + c, g.links ++ L⟩ ∧ L ≠ [] ∧ Piece L (Span g.places c) [p] [q] St
  | [], _, _, _, _, h, _, _, _ => absurd rfl h
  | [k], p, q, g, hk, _, h1, h2, h3 => hk k (by simp) p q g h1 h2 h3
  | k :: k2 :: ks, p, q, g, hk, _, h1, h2, h3 => by
    obtain ⟨c1, L1, S1, e1, n1, P1⟩ := hk k (by simp) p g.places ⟨g.places + 1, g.links⟩ (by simp; omega) (by simp) (by omega)
    obtain ⟨c2, L2, S2, e2, n2, P2⟩ := seq_grows (l := k2 :: ks) (p := g.places) (q := q) (g := K k p g.places ⟨g.places + 1, g.links⟩) (fun x hx => hk x (by simp at hx ⊢; right; exact hx)) (by simp) (by rw [e1]; simp; omega) (by rw [e1]; simp; omega) (by omega)
    rw [e1] at P2
    refine ⟨1 + c1 + c2, L1 ++ L2, _, ?_, by simp [n1], (P1.seq P2 (fun r a b => by simp only [Span] at a b; omega) (by first | omega | (simp only [Span]; omega)) (by first | omega | (simp only [Span]; omega)) (by first | omega | (simp only [Span]; omega)) (by first | omega | (simp only [Span]; omega)) (by first | omega | (simp only [Span]; omega)) (by first | omega | (simp only [Span]; omega)) (by first | omega | (simp only [Span]; omega)) (by first | omega | (simp only [Span]; omega)) h3).of fun r => ?_⟩
    · simp only [growSeq]; rw [e2, e1]; simp only [GrowL.mk.injEq, List.append_assoc, and_true]; omega
    · simp only [Span]; omega

theorem alt_grows {K : GrowT} : ∀ {l : List BlockL} {p q : Nat} {g : GrowL}, (∀ k ∈ l, GrowsOk K k) → l ≠ [] → p < g.places → q < g.places → p ≠ q →
    ∃ c L St, growAlt K l p q g = ⟨g.places + c, g.links ++ L⟩ ∧ L ≠ [] ∧ Piece L (Span g.places c) [p] [q] St
  | [], _, _, _, _, h, _, _, _ => absurd rfl h
  | [k], p, q, g, hk, _, h1, h2, h3 => hk k (by simp) p q g h1 h2 h3
  | k :: k2 :: ks, p, q, g, hk, _, h1, h2, h3 => by
    obtain ⟨c1, L1, S1, e1, n1, P1⟩ := hk k (by simp) p q g h1 h2 h3
    obtain ⟨c2, L2, S2, e2, n2, P2⟩ := alt_grows (l := k2 :: ks) (p := p) (q := q) (g := K k p q g) (fun x hx => hk x (by simp at hx ⊢; right; exact hx)) (by simp) (by rw [e1]; simp; omega) (by rw [e1]; simp; omega) h3
    rw [e1] at P2
    refine ⟨c1 + c2, L1 ++ L2, _, ?_, by simp [n1], (P1.alt P2 (fun r a b => by simp only [Span] at a b; omega) (by first | omega | (simp only [Span]; omega)) (by first | omega | (simp only [Span]; omega)) (by first | omega | (simp only [Span]; omega)) (by first | omega | (simp only [Span]; omega)) h3).of fun r => ?_⟩
    · rw [growAlt, e2, e1]; simp only [GrowL.mk.injEq, List.append_assoc, and_true]; omega
    · simp only [Span]; omega

theorem both_grows {K : GrowT} : ∀ {l : List BlockL} {x : Nat} {g : GrowL}, (∀ k ∈ l, GrowsOk K k) → x + 2 * l.length ≤ g.places →
    ∃ c L St, growBoth K l x g = ⟨g.places + c, g.links ++ L⟩ ∧ Piece L (Span g.places c) (insG l.length x) (outsG l.length x) St
  | [], x, g, _, _ => ⟨0, [], _, by simp [growBoth], Piece.none.of fun r => ⟨False.elim, fun h => by simp only [Span] at h; omega⟩⟩
  | k :: ks, x, g, hk, hx => by
    simp only [List.length_cons] at hx
    obtain ⟨c1, L1, S1, e1, n1, P1⟩ := hk k (by simp) x (x + 1) g (by omega) (by omega) (by omega)
    obtain ⟨c2, L2, S2, e2, P2⟩ := both_grows (l := ks) (x := x + 2) (g := K k x (x + 1) g) (fun y hy => hk y (by simp; right; exact hy)) (by rw [e1]; simp only; omega)
    rw [e1] at P2
    rw [List.length_cons, insG_succ, outsG_succ]
    refine ⟨c1 + c2, L1 ++ L2, _, ?_, (P1.par P2 ?_).of fun r => ?_⟩
    · simp only [growBoth]; rw [e2, e1]; simp only [GrowL.mk.injEq, List.append_assoc, and_true]; omega
    · intro r h1 h2
      simp only [List.mem_singleton, Span] at h1 h2
      have h2' : (g.places + c1 ≤ r ∧ r < g.places + c1 + c2) ∨ (x + 2 ≤ r ∧ r < x + 2 + 2 * ks.length) := by
        rcases h2 with h | h | h
        · exact .inl h
        · exact .inr (mem_insG h)
        · exact .inr (mem_outsG h)
      omega
    · simp only [Span]; omega

theorem kid_mem {b : BlockL} {j : Nat} (h : j < b.kids.length) : kidB b j ∈ b.kids := by
  have : kidB b j = b.kids[j] := by simp [kidB, List.getD, List.getElem?_eq_getElem h]
  rw [this]; exact List.getElem_mem h

theorem form_grows {K : GrowT} {b : BlockL} (hf : formB b) (hk : ∀ k ∈ b.kids, GrowsOk K k) : GrowsOk (growF K) b := by
  obtain ⟨f1, f2, f3, f4, f5, f6⟩ := hf
  intro p q g hp hq hne
  unfold growF
  by_cases k1 : b.kind = 1
  · rw [if_pos k1]
    exact ⟨0, _, _, rfl, by simp, (Piece.leaf 0 p q hne (by omega) (by omega)).of fun r => ⟨False.elim, fun h => by simp only [Span] at h; omega⟩⟩
  · rw [if_neg k1]
    by_cases k2 : b.kind = 2
    · rw [if_pos k2]
      exact ⟨0, _, _, rfl, by simp, (Piece.leaf b.label p q hne (by have := f3 k2; omega) (by have := f3 k2; omega)).of fun r => ⟨False.elim, fun h => by simp only [Span] at h; omega⟩⟩
    · rw [if_neg k2]
      have hl := f5 (by omega)
      have hnn : b.kids ≠ [] := fun e => hl (by rw [e]; rfl)
      by_cases k3 : b.kind = 3
      · rw [if_pos k3]; exact seq_grows hk hnn hp hq hne
      · rw [if_neg k3]
        by_cases k4 : b.kind = 4
        · rw [if_pos k4]; exact alt_grows hk hnn hp hq hne
        · rw [if_neg k4]
          by_cases k5 : b.kind = 5
          · rw [if_pos k5]
            obtain ⟨c, L, St, e, P⟩ := both_grows (l := b.kids) (x := g.places) (g := putG ⟨g.places + 2 * b.kids.length, g.links⟩ 0 [p] (insG b.kids.length g.places)) hk (by simp [putG])
            rw [e]
            simp only [putG] at P
            have no : ∀ r, r < g.places → r ∉ insG b.kids.length g.places ∧ r ∉ outsG b.kids.length g.places := fun r hr => ⟨fun h => by have := mem_insG h; omega, fun h => by have := mem_outsG h; omega⟩
            refine ⟨2 * b.kids.length + c, _, _, ?_, ?_, (P.toCore.wrap (p := p) (q := q) (insG_ne hl) (outsG_ne hl) (by first | omega | (simp only [Span]; omega)) (by first | omega | (simp only [Span]; omega)) (no p hp).1 (no q hq).1 (no p hp).2 (no q hq).2 hne).of fun r => ?_⟩
            · simp only [putG, GrowL.mk.injEq, List.append_assoc, List.cons_append, List.nil_append, and_true]; omega
            · simp
            · simp only [Span]
              constructor
              · rintro (h | h | h)
                · omega
                · have := mem_insG h; omega
                · have := mem_outsG h; omega
              · intro h
                by_cases h2 : r < g.places + 2 * b.kids.length
                · exact .inr (all_insG h.1 h2)
                · exact .inl (by omega)
          · rw [if_neg k5]
            have h6 := f6 (by omega)
            obtain ⟨c1, L1, S1, e1, n1, P1⟩ := hk _ (kid_mem (b := b) (j := 0) (by omega)) g.places (g.places + 1) (putG ⟨g.places + 2, g.links⟩ 0 [p] [g.places]) (by simp [putG]) (by simp [putG]) (by omega)
            rw [e1]
            obtain ⟨c2, L2, S2, e2, n2, P2⟩ := hk _ (kid_mem (b := b) (j := 1) (by omega)) (g.places + 1) g.places ⟨(putG ⟨g.places + 2, g.links⟩ 0 [p] [g.places]).places + c1, (putG ⟨g.places + 2, g.links⟩ 0 [p] [g.places]).links ++ L1⟩ (by simp [putG]; omega) (by simp [putG]; omega) (by omega)
            rw [e2]
            simp only [putG] at P1 P2
            have C := Core.loop P1 P2 (fun r a b => by simp only [Span] at a b; omega) (by first | omega | (simp only [Span]; omega)) (by first | omega | (simp only [Span]; omega)) (by first | omega | (simp only [Span]; omega)) (by first | omega | (simp only [Span]; omega)) (by first | omega | (simp only [Span]; omega))
            refine ⟨2 + c1 + c2, _, _, ?_, ?_, (C.wrap (p := p) (q := q) (by simp) (by simp) (by first | omega | (simp only [Span]; omega)) (by first | omega | (simp only [Span]; omega)) (by simp; omega) (by simp; omega) (by simp; omega) (by simp; omega) hne).of fun r => ?_⟩
            · simp only [putG, GrowL.mk.injEq, List.append_assoc, List.cons_append, List.nil_append, and_true]; omega
            · simp
            · simp only [Span, List.mem_singleton]; omega

theorem grows_fit : ∀ {f : Nat} {b : BlockL}, okB f b → Fit f b → GrowsOk (growK f) b
  | 0, _, _, h => h.elim
  | f + 1, b, h, k => form_grows h.1 fun x hx => grows_fit (h.2 x hx) (k x hx)

/-- What grows of a whole block. -/
def grownB (b : BlockL) : GrowL := growK 41 b 0 1 ⟨2, []⟩
def FitG (g : GrowL) : Prop := g.places ≤ 16 ∧ g.links.length ≤ 24
theorem grown_piece {b : BlockL} (h : RightB b) : ∃ c St, (grownB b).places = 2 + c ∧ (grownB b).links ≠ [] ∧ Piece (grownB b).links (Span 2 c) [0] [1] St := by
  obtain ⟨c, L, St, e, hn, P⟩ := grows_fit h.1 h.fit 0 1 ⟨2, []⟩ (by simp) (by simp) (by omega)
  unfold grownB
  rw [e]
  exact ⟨c, St, rfl, by simpa using hn, by simpa using P⟩

end Go.Proofs.YteoofibhpifmlaaDoor
