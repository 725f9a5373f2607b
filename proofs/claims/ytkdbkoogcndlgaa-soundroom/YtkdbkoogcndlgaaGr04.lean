import Derived.Test.YtkdbkoogcndlgaaGr00
import Derived.Maps.AppendAt
import Derived.Test.YtkdbkoogcndlgaaGr03
import Derived.Deep.RegionHeld3
import Derived.Test.YtkdbkoogcndlgaaGr01
/- What a reading hangs on: the blocks that must stand. -/
namespace Go.Proofs.Ytkdbkoogcndlgaa
open Go.RowKit
set_option linter.unusedVariables false
set_option maxRecDepth 4000

/-- It holds here, and wherever the blocks of D that are here stand as they do. -/
def On (D : Nat → Prop) (w : World) (R : World → Prop) : Prop :=
  ∀ w' : World, w.heap.size ≤ w'.heap.size → (∀ k, k < w.heap.size → D k → w'.heap[k]? = w.heap[k]?) → R w'

theorem On.now {D : Nat → Prop} {w : World} {R : World → Prop} (h : On D w R) : R w := h w (Nat.le_refl _) fun _ _ _ => rfl

theorem On.to {D : Nat → Prop} {w w' : World} {R : World → Prop} (h : On D w R) (hs : w.heap.size ≤ w'.heap.size) (hk : ∀ k, k < w.heap.size → D k → w'.heap[k]? = w.heap[k]?) : On D w' R :=
  fun w2 h2 hk2 => h w2 (Nat.le_trans hs h2) fun k hlt hD => (hk2 k (Nat.lt_of_lt_of_le hlt hs) hD).trans (hk k hlt hD)

theorem On.weaken {D D' : Nat → Prop} {w : World} {R : World → Prop} (h : On D w R) (hD : ∀ k, k < w.heap.size → D k → D' k) : On D' w R :=
  fun w2 h2 hk => h w2 h2 fun k hlt hd => hk k hlt (hD k hlt hd)

theorem On.mono {D : Nat → Prop} {w : World} {R R' : World → Prop} (h : On D w R) (hR : ∀ w', R w' → R' w') : On D w R' := fun w2 h2 hk => hR _ (h w2 h2 hk)

theorem On.below {D : Nat → Prop} {w w' : World} {R : World → Prop} (h : On D w R) (hb : Below w.heap.size w w') : On D w' R := h.to hb.size fun k hlt _ => hb.block k hlt

theorem On.grown {D : Nat → Prop} {w w' : World} {R : World → Prop} {row : Option Nat} (h : On D w R) (hg : w.grownBy w' row) (hD : ∀ k, k < w.heap.size → D k → some k ≠ row) : On D w' R :=
  h.to hg.size fun k hlt hd => hg.block k hlt (hD k hlt hd)

theorem On.set {D : Nat → Prop} {w : World} {R : World → Prop} (h : On D w R) {a : Addr} (ha : ¬ D a.block) (u : Value) : On D (w.setCell a u) R :=
  h.to (by simp [World.setCell]) fun k _ hd => Below.heap_setCell w a u k (fun e => ha (e ▸ hd))

/-- Readings that are kept by whatever leaves all old blocks as they were. -/
theorem on_all {w : World} {R : World → Prop} (h : ∀ w', w.heap.size ≤ w'.heap.size → (∀ k, k < w.heap.size → w'.heap[k]? = w.heap[k]?) → R w') : On (fun _ => True) w R := fun w' hs hk => h w' hs fun k hlt => hk k hlt trivial

theorem cell_kept {w w' : World} {p : Addr} (h : w'.heap[p.block]? = w.heap[p.block]?) : w'.cell? p = w.cell? p := World.cell?_of_block h

/-- The row that the call itself has made hangs on blocks that were made by it. -/
theorem ownsRow_on {B : Nat} {w : World} {e : TypeId} {size : Nat} {v : Value} {n : Nat} {xs : List Value} (h : w.ownsRow B e size v n xs) : On (fun k => v.ownBlock = some k ∧ B ≤ k) w (fun w' => w'.ownsRow B e size v n xs) := by
  intro w' hs hk
  refine ⟨h.1, ?_⟩
  rcases h.2 with hn | ⟨g, cap, cur, rfl, hb, hgg, rest⟩
  · exact .inl hn
  · refine .inr ⟨g, cap, cur, rfl, hb, ?_, rest⟩
    rw [hk g (Array.getElem?_eq_some_iff.1 hgg).1 ⟨rfl, hb⟩]
    exact hgg

theorem ownsRow_ints {B : Nat} {wr : World} {v : Value} {zs : List Int} (hown : wr.ownsRow B 3 1 v zs.length (zs.map (Value.int .i64))) (hl : zs.length ≤ 17592186044416) : Ints wr v zs := by
  have hown0 := hown
  obtain ⟨_, hcase⟩ := hown
  rcases hcase with ⟨rfl, h0⟩ | ⟨g, cap', cur, rfl, hg, hh, hn, hcap, hsz, htake⟩
  · exact ⟨none, zs.length, 0, by rw [h0], rfl, hl, ⟨by omega, by omega, fun _ => rfl⟩, fun j hj => absurd hj (by omega)⟩
  · refine ⟨_, _, _, rfl, rfl, hl, ⟨hn, by unfold maxLen at hcap; omega, fun h => by cases h⟩, fun j hj => ⟨g, 0, rfl, ?_, ?_⟩⟩
    · rcases Nat.lt_or_ge g wr.heap.size with h | h
      · exact h
      · rw [Array.getElem?_eq_none h] at hh; cases hh
    · rw [Nat.zero_add, hown0.cellAt j (by omega)]
      simp [nth, List.getD, List.getElem?_eq_getElem hj]

theorem Own.on {B : Nat} {w wr : World} {v : Value} {zs : List Int} (h : Own B w wr v zs) (hl : zs.length ≤ 17592186044416) : On (fun k => B ≤ k) wr (fun w' => Ints w' v zs) :=
  ((ownsRow_on h.1).weaken fun k _ hk => hk.2).mono fun w' h' => ownsRow_ints h' hl

theorem Own.slice {B : Nat} {w wr : World} {v : Value} {zs : List Int} (h : Own B w wr v zs) : ∃ a l c, v = .slice a l c := by
  rcases h.1.2 with ⟨rfl, _⟩ | ⟨g, cap', cur, rfl, _⟩
  · exact ⟨_, _, _, rfl⟩
  · exact ⟨_, _, _, rfl⟩

theorem ownsRow_slice {B : Nat} {w : World} {e : TypeId} {size : Nat} {v : Value} {n : Nat} {xs : List Value} (h : w.ownsRow B e size v n xs) : ∃ a l c, v = .slice a l c := by
  rcases h.2 with ⟨rfl, _⟩ | ⟨g, cap', cur, rfl, _⟩
  · exact ⟨_, _, _, rfl⟩
  · exact ⟨_, _, _, rfl⟩

theorem ownsRow_lt {B : Nat} {w : World} {e : TypeId} {size : Nat} {v : Value} {n : Nat} {xs : List Value} (h : w.ownsRow B e size v n xs) {k : Nat} (hk : v.ownBlock = some k) : B ≤ k ∧ k < w.heap.size := h.lt k hk

/-- append of one element of several cells onto a row that the call itself has made, where it lies. -/
theorem wp_append_at {P : Program} {o : Oper} {a : Act} {K : Act → World → Prop} {Q : Exit → Act → World → Prop} {Y : Nat → Option Bool} (w : World) (hwt : Region.wanted o Y = true) (s x : Operand) (t : TypeId)
    (ho : o.op = .call { callee := .builtin .append, args := #[s, x], argTypes := #[t, t] })
    (base : Nat) (e : TypeId) (i : TypeInfo) (z : Value) (size bytes : Nat) (ht : P.underlying t = some (.slice e)) (hi : P.info? e = some i) (hz : i.zero = some z)
    (hsize : i.size = size) (hby : i.bytes = bytes) (hzs : z.cells.size = size) (hsz : 0 < size)
    (v : Value) (n : Nat) (xs : List Value) (hs : a.eval s = v) (hown : w.ownsRow base e size v n xs)
    (ad : Addr) (m c : Nat) (news : List Value) (hx : a.eval x = .slice (some ad) m c) (hl : news.length = m * size) (hnews : ∀ j u, news[j]? = some u → w.cell? (ad.add j) = some u) (h1 : ∀ u ∈ news, u.oneCell' = true)
    (h63 : n + m ≤ maxLen) (hbytes : (n + m) * bytes ≤ 140737488355328) (hbase : base ≤ w.heap.size)
    (h : ∀ v' w', w'.ownsRow base e size v' (n + m) (xs ++ news) → w.grownBy w' v.ownBlock → (v'.ownBlock = v.ownBlock ∨ v'.ownBlock = some w.heap.size) → K (a.put o.dst v') w') :
    if Region.wanted o Y = true then Oper.wp P o a w K Q else K (a.put o.dst undef) w := by
  rw [if_pos hwt]
  obtain ⟨v', w', hr, h2, h3, h4, h5⟩ := run_append_own_at (P := P) w base t o.type e i z size bytes ht hi hz hsize hby hzs hsz v n xs hown ad m c news hl hnews h1 h63 hbytes hbase
  unfold Oper.wp execOp
  simp only [ho, resolve, invoke, builtin, Sem.run_bind, Sem.run_pure, Result.andThen_ok, List.map_toArray, List.map_cons, List.map_nil, hs, hx, hr]
  exact h v' w' h2 h3 h5

/-- append of one number, inside a region that draws its order. -/
theorem wpr_append_int {o : Oper} {a : Act} {K : Act → World → Prop} {Q : Exit → Act → World → Prop} {Y : Nat → Option Bool} (hwt : Region.wanted o Y = true) (s x : Operand)
    (ho : o.op = .call { callee := .builtin .append, args := #[s, x], argTypes := #[25, 25] }) (B : Nat) (w wr : World) (v : Value) (zs : List Int) (z : Int) (hG : Own B w wr v zs)
    (hs : a.eval s = v) (hx : a.eval x = .slice (some ⟨wr.heap.size, 0, none⟩) 1 1) (hl : zs.length + 1 ≤ 17592186044416)
    (h : ∀ v' w', Own B w w' v' (zs ++ [z]) → K (a.put o.dst v') w') :
    if Region.wanted o Y = true then Oper.wp Try.prog o a (wr.alloc (.cells #[.int .i64 z] 3)) K Q else K (a.put o.dst undef) (wr.alloc (.cells #[.int .i64 z] 3)) := by
  obtain ⟨i0, hi, hz0, hz1, hz2⟩ := info_parts info_int
  obtain ⟨hown, hb, hB⟩ := hG
  refine wp_append_at _ hwt s x 25 ho B 3 i0 (.int .i64 0) 1 8 Try.underlying25 hi hz0 hz1 hz2 rfl (by decide) v zs.length _ hs (hown.alloc _) ⟨wr.heap.size, 0, none⟩ 1 1 [.int .i64 z] hx rfl ?_ ?_ ?_ ?_ ?_ ?_
  · intro j u hj
    match j, hj with
    | 0, hj => simp at hj; subst hj; simp [Addr.add]
  · intro u hu; simp at hu; subst hu; rfl
  · unfold maxLen; omega
  · omega
  · simp; omega
  · intro v' w' hown' hgrow _
    refine h v' w' ⟨by simpa using hown', (hb.alloc hB _).grown hgrow (by simp; omega) (fun k hk => (hown.lt k hk).1), ?_⟩
    have := hgrow.size; simp at this; omega

end Go.Proofs.Ytkdbkoogcndlgaa

/- Package live as it landed: all marks behind a mark, plainly and in memory. -/
namespace Go.Proofs.Ytkdbkoogcndlgaa
open Go.RowKit
set_option linter.unusedVariables false
set_option maxRecDepth 4000

/-! ### plainly -/
def Goes (nx : List (List Int)) (k j : Nat) : Prop := ∀ P : Nat → Prop, P k → (∀ a b : Nat, P a → (b : Int) ∈ markAt nx a → P b) → P j
theorem Goes.here {nx : List (List Int)} (k : Nat) : Goes nx k k := fun _ h _ => h
theorem Goes.go {nx : List (List Int)} {k a b : Nat} (h : Goes nx k a) (hb : (b : Int) ∈ markAt nx a) : Goes nx k b := fun P h0 h1 => h1 a b (h P h0 h1) hb
theorem Goes.trans {nx : List (List Int)} {k a b : Nat} (h : Goes nx k a) (g : Goes nx a b) : Goes nx k b := fun P h0 h1 => g P (h P h0 h1) h1
def Inside (nx : List (List Int)) (n : Nat) : Prop := ∀ a : Nat, a < n → ∀ z ∈ markAt nx a, 0 ≤ z ∧ z < n
theorem Inside.lt {nx : List (List Int)} {n k j : Nat} (h : Inside nx n) (hk : k < n) (g : Goes nx k j) : j < n := g (fun j => j < n) hk fun a b ha hb => by have := h a ha _ hb; omega
def Shut (nx : List (List Int)) (n : Nat) (f : Nat → Bool) : Prop := ∀ a b : Nat, a < n → f a = true → (b : Int) ∈ markAt nx a → f b = true
theorem Shut.goes {nx : List (List Int)} {n k j : Nat} {f : Nat → Bool} (h : Shut nx n f) (hi : Inside nx n) (hk : k < n) (hf : f k = true) (g : Goes nx k j) : f j = true :=
  (g (fun j => j < n ∧ f j = true) ⟨hk, hf⟩ fun a b ha hb => ⟨by have := hi a ha.1 _ hb; omega, h a b ha.1 ha.2 hb⟩).2
def updT (f : Nat → Bool) (x : Nat) : Nat → Bool := fun j => if j = x then true else f j
theorem updT_same (f : Nat → Bool) (x : Nat) : updT f x x = true := by simp [updT]
theorem updT_other (f : Nat → Bool) {x j : Nat} (h : j ≠ x) : updT f x j = f j := by simp [updT, h]
theorem updT_grew {f : Nat → Bool} {x j : Nat} (h : f j = true) : updT f x j = true := by
  unfold updT; split
  · rfl
  · exact h
def stepsTo (nx : List (List Int)) (p i a : Nat) : List Int := if a = p then (markAt nx a).take i else markAt nx a

/-- What is noted and what is still to do; of mark p the first i steps are gone. -/
structure Spr (nx : List (List Int)) (n : Nat) (f0 : Nat → Bool) (m : Nat) (f : Nat → Bool) (todo : List Int) (p i : Nat) : Prop where
  grew : ∀ j, f0 j = true → f j = true
  sound : ∀ j, j < n → f j = true → f0 j = true ∨ Goes nx m j
  td : ∀ z ∈ todo, ∃ a : Nat, z = a ∧ a < n ∧ f a = true
  len : todo.length + cntF f n ≤ n
  gone : ∀ a, a < n → f a = true → (a : Int) ∈ todo ∨ ∀ b : Nat, (b : Int) ∈ stepsTo nx p i a → f b = true

theorem cntF_le (f : Nat → Bool) : ∀ n, cntF f n ≤ n
  | 0 => Nat.le_refl _
  | n + 1 => by have := cntF_le f n; simp only [cntF]; split <;> omega
section
variable {nx : List (List Int)} {n m p i : Nat} {f0 f : Nat → Bool} {todo : List Int}
theorem Spr.start (h : Shut nx n f0) (m : Nat) : Spr nx n f0 m f0 [] n 0 := by
  refine ⟨fun _ h => h, fun _ _ h => .inl h, fun z hz => (by cases hz), by have := cntF_le f0 n; simpa using this, fun a ha hf => .inr fun b hb => ?_⟩
  unfold stepsTo at hb
  rw [if_neg (by omega)] at hb
  exact h a b ha hf hb
theorem Spr.come (h : Spr nx n f0 m f todo p i) {x : Nat} (hx : x < n) (hf : f x = false) (hg : Goes nx m x) : Spr nx n f0 m (updT f x) (todo ++ [(x : Int)]) p i := by
  refine ⟨fun j hj => updT_grew (h.grew j hj), fun j hj hu => ?_, fun z hz => ?_, ?_, fun a ha hu => ?_⟩
  · by_cases e : j = x
    · subst e; exact .inr hg
    · rw [updT_other f e] at hu; exact h.sound j hj hu
  · rcases List.mem_append.1 hz with q | q
    · obtain ⟨a, e, ha, hfa⟩ := h.td z q
      exact ⟨a, e, ha, updT_grew hfa⟩
    · exact ⟨x, List.mem_singleton.1 q, hx, updT_same f x⟩
  · have := cntF_set hf (updT_same f x) (fun j hj => updT_other f hj) n hx
    have := h.len
    simp only [List.length_append, List.length_singleton]
    omega
  · by_cases e : a = x
    · subst e; exact .inl (List.mem_append_right _ (List.mem_singleton.2 rfl))
    · rw [updT_other f e] at hu
      rcases h.gone a ha hu with q | q
      · exact .inl (List.mem_append_left _ q)
      · exact .inr fun b hb => updT_grew (q b hb)
theorem Spr.pop {t : List Int} {a : Nat} (h : Spr nx n f0 m f (t ++ [(a : Int)]) n 0) : Spr nx n f0 m f t a 0 := by
  refine ⟨h.grew, h.sound, fun z hz => h.td z (List.mem_append_left _ hz), by have := h.len; simp at this; omega, fun c hc hf => ?_⟩
  by_cases e : c = a
  · subst e; exact .inr fun b hb => by simp [stepsTo] at hb
  · rcases h.gone c hc hf with q | q
    · rcases List.mem_append.1 q with q | q
      · exact .inl q
      · have := List.mem_singleton.1 q; omega
    · refine .inr fun b hb => q b ?_
      unfold stepsTo at hb ⊢
      rw [if_neg e] at hb
      rw [if_neg (by omega)]
      exact hb
theorem Spr.next (h : Spr nx n f0 m f todo p i) (hi : i < (markAt nx p).length) (hf : ∀ b : Nat, (b : Int) = nth (markAt nx p) i → f b = true) : Spr nx n f0 m f todo p (i + 1) := by
  refine ⟨h.grew, h.sound, h.td, h.len, fun a ha hfa => ?_⟩
  rcases h.gone a ha hfa with q | q
  · exact .inl q
  · refine .inr fun b hb => ?_
    unfold stepsTo at hb q
    by_cases e : a = p
    · subst e
      simp only [if_true] at hb q
      rw [List.take_succ_eq_append_getElem hi] at hb
      rcases List.mem_append.1 hb with r | r
      · exact q b r
      · refine hf b ?_
        rw [List.mem_singleton.1 r]
        simp [nth, List.getD, List.getElem?_eq_getElem hi]
    · simp only [if_neg e] at hb q
      exact q b hb
theorem Spr.ended (h : Spr nx n f0 m f todo p i) (hi : (markAt nx p).length ≤ i) : Spr nx n f0 m f todo n 0 := by
  refine ⟨h.grew, h.sound, h.td, h.len, fun a ha hfa => ?_⟩
  rcases h.gone a ha hfa with q | q
  · exact .inl q
  · refine .inr fun b hb => q b ?_
    unfold stepsTo at hb ⊢
    rw [if_neg (by omega)] at hb
    split
    · rename_i e; subst e; rw [List.take_of_length_le hi]; exact hb
    · exact hb
/-- What is noted in the end. -/
structure Spread (nx : List (List Int)) (n : Nat) (f0 : Nat → Bool) (m : Nat) (f : Nat → Bool) : Prop where
  shut : Shut nx n f
  mem : ∀ j, j < n → (f j = true ↔ f0 j = true ∨ Goes nx m j)
theorem Spr.done (h : Spr nx n f0 m f [] n 0) (hi : Inside nx n) (hm : m < n) (hf : f m = true) : Spread nx n f0 m f := by
  have hs : Shut nx n f := fun a b ha hfa hb => by
    rcases h.gone a ha hfa with q | q
    · cases q
    · refine q b ?_
      unfold stepsTo
      rw [if_neg (by omega)]
      exact hb
  refine ⟨hs, fun j hj => ⟨h.sound j hj, fun q => ?_⟩⟩
  rcases q with q | q
  · exact h.grew j q
  · exact hs.goes hi hm hf q
end

/-! ### in memory -/
/-- The steps as they are read; they lie in blocks of D. -/
def NextAt (w : World) (D : Nat → Prop) (nv : Value) (nx : List (List Int)) : Prop :=
  ∃ an cn, nv = .slice an nx.length cn ∧ ∀ p, p < nx.length → ∃ b1 o1 au cu, an = some ⟨b1, o1, none⟩ ∧ b1 < w.heap.size ∧ D b1 ∧ w.cell? ⟨b1, o1 + p, none⟩ = some (.slice au (markAt nx p).length cu) ∧
    (markAt nx p).length ≤ 5864062014805 ∧ ∀ k, k < (markAt nx p).length → ∃ b off, au = some ⟨b, off, none⟩ ∧ b < w.heap.size ∧ D b ∧ w.cell? ⟨b, off + k, none⟩ = some (.int .i64 (nth (markAt nx p) k))
theorem NextAt.below {w w' : World} {D : Nat → Prop} {nv : Value} {nx : List (List Int)} (h : NextAt w D nv nx) (hb : Below w.heap.size w w') : NextAt w' D nv nx := by
  obtain ⟨an, cn, e, h⟩ := h
  refine ⟨an, cn, e, fun p hp => ?_⟩
  obtain ⟨b1, o1, au, cu, e1, h1, h2, h3, h4, h5⟩ := h p hp
  refine ⟨b1, o1, au, cu, e1, Nat.lt_of_lt_of_le h1 hb.size, h2, (hb.cell (p := ⟨b1, o1 + p, none⟩) h1).trans h3, h4, fun k hk => ?_⟩
  obtain ⟨b, off, e2, g1, g2, g3⟩ := h5 k hk
  exact ⟨b, off, e2, Nat.lt_of_lt_of_le g1 hb.size, g2, (hb.cell (p := ⟨b, off + k, none⟩) g1).trans g3⟩
theorem NextAt.weak {w : World} {D D' : Nat → Prop} {nv : Value} {nx : List (List Int)} (h : NextAt w D nv nx) (hD : ∀ k, k < w.heap.size → D k → D' k) : NextAt w D' nv nx := by
  obtain ⟨an, cn, e, h⟩ := h
  refine ⟨an, cn, e, fun p hp => ?_⟩
  obtain ⟨b1, o1, au, cu, e1, h1, h2, h3, h4, h5⟩ := h p hp
  refine ⟨b1, o1, au, cu, e1, h1, hD b1 h1 h2, h3, h4, fun k hk => ?_⟩
  obtain ⟨b, off, e2, g1, g2, g3⟩ := h5 k hk
  exact ⟨b, off, e2, g1, hD b g1 g2, g3⟩
theorem NextAt.older {w w' : World} {D : Nat → Prop} {nv : Value} {nx : List (List Int)} {B : Nat} (h : NextAt w D nv nx) (hb : Below w.heap.size w w') (hB : w.heap.size ≤ B) : NextAt w' (fun k => k ≠ B) nv nx :=
  (h.weak fun k hk _ => (by omega : k ≠ B)).below hb
theorem OnlyB.at {w w' : World} {B b off : Nat} (h : OnlyB B w w') (hb : b < w.heap.size) (hne : b ≠ B) : w'.cell? ⟨b, off, none⟩ = w.cell? ⟨b, off, none⟩ := World.cell?_of_block (a := ⟨b, off, none⟩) (h.block b hb hne)
structure SprAt (w : World) (B n bb tb : Nat) (wr : World) (f : Nat → Bool) (tv : Value) (todo : List Int) : Prop where
  row : BoolRow wr B n f
  box : Box1 wr bb (.slice (some ⟨B, 0, none⟩) n n)
  cell : wr.heap[tb]? = some (.cells #[tv] 25 (0, 0))
  own : wr.ownsRow (tb + 1) 3 1 tv todo.length (todo.map (Value.int .i64))
  only : OnlyB B w wr
  hB : B < w.heap.size
  hbb : w.heap.size ≤ bb
  htb : bb < tb
section
variable {w wr : World} {B n bb tb : Nat} {f : Nat → Bool} {tv : Value} {todo : List Int}
theorem SprAt.lt (h : SprAt w B n bb tb wr f tv todo) : tb < wr.heap.size := (Array.getElem?_eq_some_iff.1 h.cell).1
theorem SprAt.tcell (h : SprAt w B n bb tb wr f tv todo) : wr.cell? ⟨tb, 0, none⟩ = some tv ∧ wr.frozen? ⟨tb, 0, none⟩ = false := by
  have hc := h.cell
  constructor
  · simp [World.cell?, hc]
  · simp [World.frozen?, hc]
theorem SprAt.to {w2 : World} (h : SprAt w B n bb tb wr f tv todo) (hb : Below wr.heap.size wr w2) : SprAt w B n bb tb w2 f tv todo :=
  { h with
    row := h.row.below hb
    box := h.box.below hb
    cell := by rw [hb.block tb h.lt]; exact h.cell
    own := ((ownsRow_on h.own).below hb).now
    only := ⟨h.only.below.trans (hb.mono (Nat.le_of_lt (Nat.lt_of_lt_of_le h.hB h.only.size))), Nat.le_trans h.only.size hb.size, fun k hk hne => (hb.block k (Nat.lt_of_lt_of_le hk h.only.size)).trans (h.only.block k hk hne)⟩ }
theorem SprAt.note (h : SprAt w B n bb tb wr f tv todo) {x : Nat} (hx : x < n) : SprAt w B n bb tb (wr.setCell ⟨B, x, none⟩ (.bool true)) (updT f x) tv todo := by
  have hBb : B ≠ bb := by have := h.hB; have := h.hbb; omega
  have hBt : B ≠ tb := by have := h.hB; have := h.hbb; have := h.htb; omega
  refine { h with
    row := h.row.put hx (updT_same f x) (fun j _ hj => updT_other f hj)
    box := ⟨by simpa [World.setCell] using h.box.1, by rw [World.cell?_setCell_other _ _ _ _ (by intro q; injection q with q1 _; exact hBb q1)]; exact h.box.2⟩
    cell := by rw [Below.heap_setCell wr ⟨B, x, none⟩ _ tb (fun e => hBt e.symm)]; exact h.cell
    own := ((ownsRow_on h.own).set (a := ⟨B, x, none⟩) (fun e => by have := e.2; have := h.hB; have := h.hbb; have := h.htb; simp only at *; omega) _).now
    only := h.only.trans (OnlyB.set B x wr _) }
/-- The row of what is to do has grown, and the box holds the new one. -/
theorem SprAt.push {wC : World} {v' : Value} {z : Int} (h : SprAt w B n bb tb wr f tv todo) (hown : wC.ownsRow (tb + 1) 3 1 v' (todo.length + 1) (todo.map (Value.int .i64) ++ [.int .i64 z])) (hg : wr.grownBy wC tv.ownBlock) :
    SprAt w B n bb tb (wC.setCell ⟨tb, 0, none⟩ v') f v' (todo ++ [z]) := by
  have hBt : B < tb := by have := h.hB; have := h.hbb; have := h.htb; omega
  have htl : ∀ k, tv.ownBlock = some k → tb + 1 ≤ k ∧ k < wr.heap.size := fun k hk => ownsRow_lt h.own hk
  have hbg : Below (tb + 1) wr wC := (Below.refl _ _).grown hg (by have := h.lt; omega) (fun k hk => (htl k hk).1)
  have hb2 : Below tb wr (wC.setCell ⟨tb, 0, none⟩ v') := (hbg.mono (Nat.le_succ tb)).setCell (p := ⟨tb, 0, none⟩) (Nat.le_refl _) _
  have hc1 : wC.heap[tb]? = some (.cells #[tv] 25 (0, 0)) := by rw [hbg.block tb (by omega)]; exact h.cell
  refine ⟨⟨fun j hj => ?_, fun j hj => ?_, Nat.lt_of_lt_of_le h.row.lt hb2.size⟩, ⟨Nat.lt_of_lt_of_le h.box.1 hb2.size, ?_⟩, ?_, ?_, ⟨?_, Nat.le_trans h.only.size hb2.size, fun k hk hne => ?_⟩, h.hB, h.hbb, h.htb⟩
  · rw [hb2.cell (p := ⟨B, j, none⟩) hBt]; exact h.row.cells j hj
  · rw [hb2.frozen (p := ⟨B, j, none⟩) hBt]; exact h.row.frozen j hj
  · rw [hb2.cell (p := ⟨bb, 0, none⟩) h.htb]; exact h.box.2
  · rw [setCell_eq_setRow wC tb 0 _ _ _ v' hc1]
    have := setRow_heap wC tb #[tv] (#[tv].setIfInBounds 0 v') 25 (0, 0) hc1
    simpa using this
  · have := ((ownsRow_on hown).set (a := ⟨tb, 0, none⟩) (fun e => by have := e.2; simp only at this; omega) v').now
    simpa using this
  · exact h.only.below.trans (hb2.mono (by omega))
  · rw [hb2.block k (by have := h.hbb; have := h.htb; omega)]; exact h.only.block k hk hne
theorem SprAt.slice (h : SprAt w B n bb tb wr f tv todo) : ∃ a c, tv = .slice a todo.length c := by
  rcases h.own.2 with ⟨e, h0⟩ | ⟨g, cap, cur, e, _⟩
  · exact ⟨none, 0, by rw [h0]; exact e⟩
  · exact ⟨_, _, e⟩
theorem SprAt.grownCell {wC : World} (h : SprAt w B n bb tb wr f tv todo) (hg : wr.grownBy wC tv.ownBlock) : wC.cell? ⟨tb, 0, none⟩ = some tv ∧ wC.frozen? ⟨tb, 0, none⟩ = false := by
  have hc : wC.heap[tb]? = some (.cells #[tv] 25 (0, 0)) := by
    rw [hg.block tb h.lt (fun e => by have := (ownsRow_lt h.own e.symm).1; omega)]; exact h.cell
  constructor
  · simp [World.cell?, hc]
  · simp [World.frozen?, hc]
theorem ownsRow_pop {b : Nat} {t : TypeId} {a : Option Addr} {k c : Nat} {xs : List Value} {y : Value} (h : w.ownsRow b t 1 (.slice a (k + 1) c) (k + 1) (xs ++ [y])) (hl : xs.length = k) : w.ownsRow b t 1 (.slice a k c) k xs := by
  obtain ⟨_, hcase⟩ := h
  refine ⟨by omega, ?_⟩
  rcases hcase with ⟨_, h0⟩ | ⟨g, cap, cur, e, hb, hg, hn, hcap, hsz, htake⟩
  · omega
  · injection e with e1 e2 e3
    subst e1 e3
    refine .inr ⟨g, c, cur, rfl, hb, hg, by omega, hcap, hsz, ?_⟩
    have := congrArg (List.take k) htake
    rw [List.take_take, List.take_left' hl, show min k ((k + 1) * 1) = k by omega] at this
    simpa using this
theorem SprAt.pop {a : Option Addr} {k c : Nat} {t : List Int} {z : Int} (h : SprAt w B n bb tb wr f (.slice a (k + 1) c) (t ++ [z])) (hk : t.length = k) : SprAt w B n bb tb (wr.setCell ⟨tb, 0, none⟩ (.slice a k c)) f (.slice a k c) t := by
  have hBt : B < tb := by have := h.hB; have := h.hbb; have := h.htb; omega
  have hb2 : Below tb wr (wr.setCell ⟨tb, 0, none⟩ (.slice a k c)) := (Below.refl _ _).setCell (p := ⟨tb, 0, none⟩) (Nat.le_refl _) _
  refine ⟨⟨fun j hj => ?_, fun j hj => ?_, Nat.lt_of_lt_of_le h.row.lt hb2.size⟩, ⟨Nat.lt_of_lt_of_le h.box.1 hb2.size, ?_⟩, ?_, ?_, ⟨?_, Nat.le_trans h.only.size hb2.size, fun k hk hne => ?_⟩, h.hB, h.hbb, h.htb⟩
  · rw [hb2.cell (p := ⟨B, j, none⟩) hBt]; exact h.row.cells j hj
  · rw [hb2.frozen (p := ⟨B, j, none⟩) hBt]; exact h.row.frozen j hj
  · rw [hb2.cell (p := ⟨bb, 0, none⟩) h.htb]; exact h.box.2
  · rw [setCell_eq_setRow wr tb 0 _ _ _ _ h.cell]
    have := setRow_heap wr tb #[.slice a (k + 1) c] (#[.slice a (k + 1) c].setIfInBounds 0 (.slice a k c)) 25 (0, 0) h.cell
    simpa using this
  · have h1 : wr.ownsRow (tb + 1) 3 1 (.slice a k c) k (t.map (Value.int .i64)) := by
      have h0 := h.own
      simp only [List.length_append, List.length_singleton, List.map_append, List.map_cons, List.map_nil, hk] at h0
      exact ownsRow_pop h0 (by simpa using hk)
    have := ((ownsRow_on h1).set (a := ⟨tb, 0, none⟩) (fun e => by have := e.2; simp only at this; omega) (.slice a k c)).now
    rw [hk]
    exact this
  · exact h.only.below.trans (hb2.mono (by omega))
  · rw [hb2.block k (by have := h.hbb; have := h.htb; omega)]; exact h.only.block k hk hne
/-- What is to do last. -/
theorem SprAt.last (h : SprAt w B n bb tb wr f tv todo) {t : List Int} {z : Int} (e : todo = t ++ [z]) : ∃ g c, tv = .slice (some ⟨g, 0, none⟩) (t.length + 1) c ∧ t.length + 1 ≤ c ∧ c ≤ maxLen ∧ g < wr.heap.size ∧ wr.cell? ⟨g, t.length, none⟩ = some (.int .i64 z) := by
  subst e
  have hown := h.own
  rcases id hown.2 with ⟨_, h0⟩ | ⟨g, cap, cur, e, hb, hg, hn, hcap, hsz, htake⟩
  · simp at h0
  · refine ⟨g, cap, by simpa using e, by simpa using hn, hcap, (Array.getElem?_eq_some_iff.1 hg).1, ?_⟩
    subst e
    have hc := hown.cellAt t.length (by simp)
    simpa using hc
end

end Go.Proofs.Ytkdbkoogcndlgaa

/- Package sound as it landed: going through arcs from the last one on; which marks are found to come to the end, plainly. -/
namespace Go.Proofs.Ytkdbkoogcndlgaa
open Go.RowKit Go.Shelf
set_option linter.unusedVariables false
set_option maxRecDepth 4000

attribute [local go_sem] Oper.semAt_some

/-- An arc with its place. -/
abbrev ArcY (ls : List (Int × Int × Int)) := { y : Int × (Int × Int × Int) // y.2 ∈ ls }
def arcV (a : Int × Int × Int) : Value := .agg #[.int .i64 a.1, .int .i64 a.2.1, .int .i64 a.2.2]
def arcsOf {ls : List (Int × Int × Int)} (l : List (ArcY ls)) : List (Int × Int × Int) := l.map fun y => y.1.2
theorem arcsOf_snoc {ls : List (Int × Int × Int)} (l : List (ArcY ls)) (y : ArcY ls) : arcsOf (l ++ [y]) = arcsOf l ++ [y.1.2] := by simp [arcsOf]
theorem arcsOf_nil {ls : List (Int × Int × Int)} : arcsOf ([] : List (ArcY ls)) = [] := rfl

set_option maxRecDepth 100000 in
set_option maxHeartbeats 2000000 in
theorem backward1_in (n : Nat) (hn : 1 ≤ n) (l : Nat) (w0 : World) (b : Nat) (v : Value) (ls : List (Int × Int × Int)) (hv : Arcs w0 v ls) (J Jx : List (ArcY ls) → World → Prop)
    (hY : ∀ pre (y : ArcY ls) W, J pre W → pre.length < ls.length → YieldAt Fence.wide (n - 1) Try.prog l #[.int .i64 y.1.1, arcV y.1.2] W fun e W' =>
      (e = .returned (.bool true) ∧ J (pre ++ [y]) W' ∧ KeepT w0.heap.size b W W') ∨ (e = .returned (.bool false) ∧ Jx (pre ++ [y]) W'))
    (W : World) (hW : Below w0.heap.size w0 W) (hB : W.heap[b]? = some (.cells #[v] 44 (0, 0))) (h0 : J [] W) :
    CallsIn Fence.wide n Try.prog 92 #[.func (.yield l) #[] #[], .pointer (some ⟨b, 0, none⟩)] W fun e W' => (∃ v, e = .returned v) ∧
      ((∃ ys : List (ArcY ls), arcsOf ys = ls.reverse ∧ J ys W') ∨ (∃ pre : List (ArcY ls), (∃ r, arcsOf pre ++ r = ls.reverse) ∧ Jx pre W')) := by
  obtain ⟨a, len, cap, rfl, hlen, hmx, hsh, hr⟩ := hv
  obtain ⟨c0, _⟩ := box_cell hB
  refine callsIn_of_wp Try.func92 rfl trivial ?_ rfl
  simp only [Try.ntmps92, List.size_toArray, List.length_cons, List.length_nil, Nat.reduceAdd, Nat.reduceSub, Array.replicate_succ, Array.replicate_zero, List.push_toArray, List.append_toArray, List.nil_append, List.cons_append]
  gi_wp2
  gi_loopw [3] (fun i wr => ∃ (pre : List (ArcY ls)) (k : Nat), k ≤ len ∧ i = .int .i64 ((k : Int) - 1) ∧ pre.length + k = len ∧ arcsOf pre ++ (ls.take k).reverse = ls.reverse ∧ Below w0.heap.size w0 wr ∧ wr.heap[b]? = some (.cells #[.slice a len cap] 44 (0, 0)) ∧ J pre wr) (fun i _ => (intOf i + 1).toNat)
  case atStart => exact ⟨[], len, Nat.le_refl _, by go_num, by simp, by rw [← hlen, List.take_length]; rfl, hW, hB, h0⟩
  case round =>
    obtain ⟨pre, k, hk, rfl, hpl, hpe, hb, hBr, hJ⟩ := hrel
    obtain ⟨c1, _⟩ := box_cell hBr
    by_cases hk0 : k = 0
    · subst hk0
      have e : arcsOf pre = ls.reverse := by simpa using hpe
      gi_wp2
      go_end0
      exact ⟨⟨_, rfl⟩, .inl ⟨pre, e, hJ⟩⟩
    · obtain ⟨j, rfl⟩ : ∃ j, k = j + 1 := ⟨k - 1, by omega⟩
      have hj : j < ls.length := by omega
      obtain ⟨b1, o1, rfl, hb1, d0, d1, d2⟩ := hr j hj
      have d0 := (hb.cell (p := ⟨b1, o1 + j * 3, none⟩) hb1).trans d0
      have d1 := (hb.cell (p := ⟨b1, o1 + j * 3 + 1, none⟩) hb1).trans d1
      have d2 := (hb.cell (p := ⟨b1, o1 + j * 3 + 2, none⟩) hb1).trans d2
      have ej : (((j + 1 : Nat) : Int) - 1) = (j : Int) := by omega
      rw [ej]
      obtain ⟨x, hx, hmem⟩ : ∃ x, ls[j] = x ∧ x ∈ ls := ⟨_, rfl, List.getElem_mem hj⟩
      have Hnx : Hid (arcsOf (pre ++ [⟨((j : Int), x), hmem⟩]) ++ (ls.take j).reverse = ls.reverse) := by
        show _ = _
        rw [arcsOf_snoc, ← hpe, List.take_succ_eq_append_getElem hj, hx]
        simp
      rw [hx] at d0 d1 d2
      obtain ⟨fn, tmps, assign, body, hy, hR⟩ := hY pre ⟨((j : Int), x), hmem⟩ wr hJ (by omega)
      dsimp only [arcV] at hy
      clear hr hpe hx
      gi_wp2
      refine hR.mono ?_
      rintro e W3 (⟨rfl, hJ3, hk3⟩ | ⟨rfl, hJx3⟩)
      · gi_wp2
        go_roundw
        case rel => exact ⟨_, j, by omega, by go_num, by simp; omega, Hnx.out, hb.trans hk3.1, hk3.2.trans hBr, hJ3⟩
        case measure => simp [intOf]
      · gi_wp2
        refine bodyPost_ret (results_none rfl _ _ _) rfl ?_
        exact ⟨⟨_, rfl⟩, .inr ⟨_, ⟨_, Hnx.out⟩, hJx3⟩⟩

theorem backward_any (v : Value) (w : World) (hv : ∃ a l c, v = .slice a l c) :
    Calls Try.prog 77 #[v] w fun e w' =>
      e = .returned (.func (.func 92) #[] #[.pointer (some ⟨w.heap.size, 0, none⟩)]) ∧ w' = w.alloc (.cells #[v] 44) := by
  obtain ⟨a, l, c, rfl⟩ := hv
  go_enter Try.func77, Try.ntmps77
  go_wp2
  go_ret
  exact ⟨rfl, rfl⟩

theorem backward_stops (n : Nat) (hn : 1 ≤ n) (w0 : World) (b : Nat) (v : Value) (ls : List (Int × Int × Int)) (hv : Arcs w0 v ls) (w : World) (h0 : Below w0.heap.size w0 w) (hB : w.heap[b]? = some (.cells #[v] 44 (0, 0))) :
    SeqStopsK Fence.wide n Try.prog 92 #[.pointer (some ⟨b, 0, none⟩)] (fun y : ArcY ls => #[.int .i64 y.1.1, arcV y.1.2]) (KeepT w0.heap.size b)
      (fun ys => arcsOf ys = ls.reverse) (fun pre => ∃ r, arcsOf pre ++ r = ls.reverse) ls.length w := fun l J Jx W hW _ _ hY hJ0 =>
  backward1_in n hn l w0 b v ls hv J Jx hY W (h0.trans (hW.mono h0.size)) ((hW.block b (Array.getElem?_eq_some_iff.1 hB).1).trans hB) hJ0

/-! ### plainly -/
/-- What one pass over some arcs has come to: f at its beginning, g now; b: something was noted. -/
structure PassA (G : Nat → Prop) (n : Nat) (f g : Nat → Bool) (b : Bool) (pre : List (Int × Int × Int)) : Prop where
  grew : ∀ j, f j = true → g j = true
  sound : ∀ j, j < n → g j = true → G j
  none : b = false → g = f ∧ ∀ a ∈ pre, f a.2.2.toNat = true → f a.1.toNat = true
  some : b = true → cntF g n < cntF f n
theorem PassA.start {G : Nat → Prop} {n : Nat} {f : Nat → Bool} (h : ∀ j, j < n → f j = true → G j) : PassA G n f f false [] := ⟨fun _ h => h, h, fun _ => ⟨rfl, by simp⟩, fun h => by cases h⟩
theorem PassA.stay {G : Nat → Prop} {n : Nat} {f g : Nat → Bool} {b : Bool} {pre : List (Int × Int × Int)} (h : PassA G n f g b pre) {a : Int × Int × Int} (ha : g a.2.2.toNat = true → g a.1.toNat = true) : PassA G n f g b (pre ++ [a]) := by
  refine ⟨h.grew, h.sound, fun e => ⟨(h.none e).1, fun c hc => ?_⟩, h.some⟩
  rcases List.mem_append.1 hc with q | q
  · exact (h.none e).2 c q
  · rw [List.mem_singleton.1 q, ← (h.none e).1]; exact ha
theorem PassA.note {G : Nat → Prop} {n : Nat} {f g : Nat → Bool} {b : Bool} {pre : List (Int × Int × Int)} (h : PassA G n f g b pre) {a : Int × Int × Int} {x : Nat} (hx : a.1.toNat = x) (hxn : x < n) (hg : g x = false) (hG : G x) : PassA G n f (updT g x) true (pre ++ [a]) := by
  have hc := cntF_set hg (updT_same g x) (fun j hj => updT_other g hj) n hxn
  refine ⟨fun j hj => updT_grew (h.grew j hj), fun j hj hu => ?_, fun e => (by cases e), fun _ => ?_⟩
  · by_cases e : j = x
    · subst e; exact hG
    · rw [updT_other g e] at hu; exact h.sound j hj hu
  · cases b
    · rw [← (h.none rfl).1]; omega
    · have := h.some rfl; omega
end Go.Proofs.Ytkdbkoogcndlgaa

/- Package sound as it landed: comesTo, walked. -/
namespace Go.Proofs.Ytkdbkoogcndlgaa
open Go.RowKit Go.Shelf
set_option linter.unusedVariables false
set_option maxRecDepth 4000

attribute [local go_sem] Oper.semAt_some

def sameM (x E : List Int) : Bool := coversL x E && coversL E x
def endTo (l : List (List Int)) (E : List Int) (k : Nat) : Nat → Bool := fun j => decide (j < k) && sameM (markAt l j) E
theorem endTo_zero (l : List (List Int)) (E : List Int) : endTo l E 0 = fun _ => false := by funext j; simp [endTo]

/-- What a row of yes and no is while the blocks beside it may change. -/
theorem BoolRow.keep {w w' : World} {B n : Nat} {f : Nat → Bool} (h : BoolRow w B n f) (hb : w'.heap[B]? = w.heap[B]?) : BoolRow w' B n f := by
  have hlt : B < w'.heap.size := by
    rcases Nat.lt_or_ge B w'.heap.size with q | q
    · exact q
    · rw [Array.getElem?_eq_none q] at hb
      have := h.lt
      rw [Array.getElem?_eq_getElem this] at hb
      cases hb
  refine ⟨fun j hj => ?_, fun j hj => ?_, hlt⟩
  · have := h.cells j hj; simp only [World.cell?] at this ⊢; rw [hb]; exact this
  · have := h.frozen j hj; simp only [World.frozen?] at this ⊢; rw [hb]; exact this

/-- What holds at the head of the second loop. -/
structure ComeI (w : World) (s : SpaceZ) (sp av cv : Value) (lm : Nat) (G : Nat → Prop) (f0 : Nat → Bool) (k b8 : Nat) (c : Bool) (f : Nat → Bool) (ds : List Deferred) (Ds : List Nat) (wr : World) : Prop where
  meas : k = 2 * cntF f lm + (if c then 1 else 0)
  more : wr.heap[b8]? = some (.cells #[.bool c] 4 (0, 0))
  far : w.heap.size + 2 < b8
  can : wr.heap[w.heap.size + 1 + 1]? = some (.cells #[cv] 55 (0, 0))
  row : BoolRow wr (w.heap.size + 1) lm f
  space : wr.heap[w.heap.size]? = some (.cells #[sp, av] 46 (0, 0))
  grew : ∀ j, f0 j = true → f j = true
  sound : ∀ j, j < lm → f j = true → G j
  shut : c = false → ∀ a ∈ s.arcs, f a.2.2.toNat = true → f a.1.toNat = true
  below : Below w.heap.size w wr
  marks : Marked (w.heap.size + 2) ds Ds wr

theorem box2_of {w : World} {b : Nat} {t : TypeId} {x y : Value} (h : w.heap[b]? = some (.cells #[x, y] t (0, 0))) : Box2 w b x y := ⟨(Array.getElem?_eq_some_iff.1 h).1, by simp [World.cell?, h], by simp [World.cell?, h]⟩

theorem BoolRow.grown {W W' : World} {B n : Nat} {f : Nat → Bool} {row : Option Nat} (h : BoolRow W B n f) (hg : W.grownBy W' row) (hr : ∀ r, row = some r → ∃ o : Obj, W.heap[r]? = some o ∧ o.isCells = false) : BoolRow W' B n f := by
  by_cases e : row = some B
  · obtain ⟨o, h1, h2⟩ := hr B e
    have h0 : n = 0 := by
      rcases Nat.eq_zero_or_pos n with q | q
      · exact q
      · have := h.cells 0 q
        simp only [World.cell?, h1] at this
        cases o <;> first | (cases this; done) | (cases h2; done)
    subst h0
    exact ⟨fun j hj => absurd hj (Nat.not_lt_zero _), fun j hj => absurd hj (Nat.not_lt_zero _), Nat.lt_of_lt_of_le h.lt hg.size⟩
  · exact h.keep (hg.block B h.lt (fun q => e q.symm))

theorem Marked.to2 {B : Nat} {ds : List Deferred} {Ds : List Nat} {W W' : World} (h : Marked B ds Ds W) (hk : ∀ (k : Nat) (o : Obj), B ≤ k → W.heap[k]? = some o → o.isCells = false → W'.heap[k]? = some o) : Marked B ds Ds W' :=
  ⟨h.eq, h.nodup, fun D hD => ⟨(h.all D hD).1, hk D _ (h.all D hD).1 (h.all D hD).2 rfl⟩⟩

/-- What holds within a pass. -/
structure ComeP (w w5 : World) (lm b8 : Nat) (G : Nat → Prop) (f : Nat → Bool) {ls : List (Int × Int × Int)} (pre : List (ArcY ls)) (W : World) : Prop where
  ex : ∃ (b : Bool) (g : Nat → Bool), W.heap[b8]? = some (.cells #[.bool b] 4 (0, 0)) ∧ BoolRow W (w.heap.size + 1) lm g ∧ PassA G lm f g b (arcsOf pre)
  only : Only2 (w.heap.size + 1) b8 w5 W
  below : Below w.heap.size w W
theorem comeP_own {w w5 : World} {lm b8 : Nat} {G : Nat → Prop} {f : Nat → Bool} {ls : List (Int × Int × Int)} (hw : w.heap.size ≤ w5.heap.size) : OwnFrom w5.heap.size (fun (pre : List (ArcY ls)) W => ComeP w w5 lm b8 G f pre W) := by
  intro pre W W' row hs hg hr
  obtain ⟨⟨b, g, h1, h2, h3⟩, h4, h5⟩ := hs
  refine ⟨⟨b, g, ?_, h2.grown hg (fun r e => (hr r e).2), h3⟩, only2_own (α := ArcY ls) (Nat.le_refl _) pre W W' row h4 hg hr, ownFrom_below (β := List (ArcY ls)) (Nat.le_refl _) hw pre W W' row h5 hg hr⟩
  rw [hg.block b8 (Array.getElem?_eq_some_iff.1 h1).1 (fun e => by
    obtain ⟨_, o, q1, q2⟩ := hr b8 e.symm
    rw [h1] at q1
    injection q1 with q1
    subst q1
    cases q2)]
  exact h1

theorem come_round {wr : World} {b8 : Nat} {av : Value} {c : Bool} (h : wr.heap[b8]? = some (.cells #[.bool c] 4 (0, 0))) :
    ∃ w5, Hid ((wr.setCell ⟨b8, 0, none⟩ (.bool false)).alloc (.cells #[av] 44) = w5) ∧ w5.heap.size = wr.heap.size + 1 ∧ w5.heap[b8]? = some (.cells #[.bool false] 4 (0, 0)) ∧
      Below b8 wr w5 ∧ (∀ k, k < wr.heap.size → k ≠ b8 → w5.heap[k]? = wr.heap[k]?) ∧ w5.heap[wr.heap.size]? = some (.cells #[av] 44 (0, 0)) := by
  have hlt : b8 < wr.heap.size := (Array.getElem?_eq_some_iff.1 h).1
  obtain ⟨w2, hw2⟩ : ∃ w2, wr.setCell ⟨b8, 0, none⟩ (.bool false) = w2 := ⟨_, rfl⟩
  have hs : w2.heap.size = wr.heap.size := by rw [← hw2]; simp [World.setCell]
  have h2 : w2.heap[b8]? = some (.cells #[.bool false] 4 (0, 0)) := by rw [← hw2]; exact setBox h
  have hb2 : Below b8 wr w2 := by rw [← hw2]; exact (Below.refl _ _).setCell (p := ⟨b8, 0, none⟩) (Nat.le_refl _) _
  have ho : ∀ k, k ≠ b8 → w2.heap[k]? = wr.heap[k]? := fun k hk => by rw [← hw2]; exact Below.heap_setCell _ _ _ _ hk
  rw [hw2]
  have b1 := below_new w2 (.cells #[av] 44)
  refine ⟨_, rfl, by simp [hs], (b1.block b8 (by omega)).trans h2, hb2.trans (b1.mono (by omega)), fun k hk hne => (b1.block k (by omega)).trans (ho k hne), ?_⟩
  rw [← hs]; exact heap_alloc_at _ _

theorem only2_below {g b : Nat} {a c d : World} (h : Only2 g b a c) {n : Nat} (hg : n ≤ g) (hb : n ≤ b) : ∀ k, k < n → k < a.heap.size → c.heap[k]? = a.heap[k]? := fun k hk hl => h.2 k hl (by omega) (by omega)


set_option maxRecDepth 100000 in
set_option maxHeartbeats 4000000 in
theorem comesTo_any (v u : Value) (s : SpaceZ) (E : List Int) (w : World) (hv : SpaceV w v s) (hr : rightS s = true) (hu : Ints w u E) :
    Calls Try.prog 51 #[v, u] w fun e w' => ∃ (B : Nat) (f : Nat → Bool), e = .returned (.slice (some ⟨B, 0, none⟩) s.marks.length s.marks.length) ∧ BoolRow w' B s.marks.length f ∧
      (∀ j : Nat, j < s.marks.length → (f j = true ↔ ∃ k : Nat, k < s.marks.length ∧ sameM (markAt s.marks k) E = true ∧ Comes s j k)) ∧ Below w.heap.size w w' := by
  obtain ⟨hN, mv, av, rfl, hM, hA⟩ := hv
  obtain ⟨am, cm, rfl, _, _⟩ := hM.slice
  obtain ⟨lm, Hlm⟩ : ∃ lm, Hid (s.marks.length = lm) := ⟨_, rfl⟩
  rw [Hlm.out] at hN ⊢
  rw [Hlm.out] at hM
  obtain ⟨aa, ca, rfl, hla⟩ := hA.slice
  obtain ⟨la, Hla⟩ : ∃ la, Hid (s.arcs.length = la) := ⟨_, rfl⟩
  rw [Hla.out] at hA hla ⊢
  refine (callsIn_wide (n := 5)).1 ?_
  refine callsIn_of_wp_marks Try.func51 rfl trivial ?_ rfl
  simp only [Try.ntmps51, List.size_toArray, List.length_cons, List.length_nil, Nat.reduceAdd, Nat.reduceSub, Array.replicate_succ, Array.replicate_zero, List.push_toArray, List.append_toArray, List.nil_append, List.cons_append]
  refine wpIn_wide.2 ?_
  refine Code.wp_mono (fun e a w h => noPanicOut h) ?_
  have b1 := below_new w (.cells #[.slice am lm cm, .slice aa la ca] 46)
  have hbx : (w.alloc (.cells #[.slice am lm cm, .slice aa la ca] 46)).heap[w.heap.size]? = some (.cells #[.slice am lm cm, .slice aa la ca] 46 (0, 0)) := heap_alloc_at _ _
  obtain ⟨w1, Hmk, b2, hs2, hR⟩ := make_flags (w.alloc (.cells #[.slice am lm cm, .slice aa la ca] 46)) lm hN
  replace hbx := (b2.block _ (Array.getElem?_eq_some_iff.1 hbx).1).trans hbx
  have es : (w.alloc (.cells #[.slice am lm cm, .slice aa la ca] 46)).heap.size = w.heap.size + 1 := by simp
  rw [es] at hs2 hR Hmk
  have c1 := below_then b1 b2
  clear b1 b2
  have b3 := below_new w1 (.cells #[.slice (some ⟨w.heap.size + 1, 0, none⟩) lm lm] 55)
  have hbc : (w1.alloc (.cells #[.slice (some ⟨w.heap.size + 1, 0, none⟩) lm lm] 55)).heap[w1.heap.size]? = some (.cells #[.slice (some ⟨w.heap.size + 1, 0, none⟩) lm lm] 55 (0, 0)) := heap_alloc_at _ _
  replace hbx := (b3.block _ (Array.getElem?_eq_some_iff.1 hbx).1).trans hbx
  replace hR := hR.below b3
  replace c1 := below_then c1 b3
  rw [hs2] at hbc
  obtain ⟨w2, Hw2⟩ : ∃ w2, Hid (w1.alloc (.cells #[.slice (some ⟨w.heap.size + 1, 0, none⟩) lm lm] 55) = w2) := ⟨_, rfl⟩
  rw [Hw2.out] at hbx hR c1 hbc
  obtain ⟨x0, x1, x2⟩ := box2_of hbx
  go_upto_region 2 with fail
  rw [Hw2.out]
  clear Hmk Hw2 hs2 b3 es
  have hlt1 : w.heap.size + 1 < w2.heap.size := hR.lt
  go_wp2_with fail
  clear x0 x1 x2
  rw [← endTo_zero s.marks E] at hR
  go_loopg [18] lm (fun g i wr => ∃ k : Nat, k + g = lm ∧ i = .int .i64 k ∧ BoolRow wr (w.heap.size + 1) lm (endTo s.marks E k) ∧ wr.heap[w.heap.size]? = some (.cells #[.slice am lm cm, .slice aa la ca] 46 (0, 0)) ∧ wr.heap[w.heap.size + 1 + 1]? = some (.cells #[.slice (some ⟨w.heap.size + 1, 0, none⟩) lm lm] 55 (0, 0)) ∧ Below w.heap.size w wr)
  case atStart => exact ⟨0, by omega, rfl, hR, hbx, hbc, c1⟩
  case round =>
    clear hR hbx hbc c1
    obtain ⟨k, hkg, rfl, hR, hbx, hbc, c⟩ := hrel
    by_cases hk : k < lm
    · obtain ⟨b1, o1, u1, rfl, _, e1, i1⟩ := (hM.below c).at hk
      have hu' := hu.below c
      obtain ⟨X, HX⟩ : ∃ X, Hid (markAt s.marks k = X) := ⟨_, rfl⟩
      rw [HX.out] at i1
      have HE : Hid (endTo s.marks E (k + 1) k = (coversL X E && coversL E X)) := by show _ = _; simp [endTo, sameM, HX.out]
      have HO : Hid (∀ j, j < lm → j ≠ k → endTo s.marks E (k + 1) j = endTo s.marks E k j) := fun j hj hne => by
        show (decide _ && _) = (decide _ && _)
        have : (j < k + 1) ↔ (j < k) := by omega
        simp [this]
      obtain ⟨au, lu, cu, rfl, _⟩ := id i1
      obtain ⟨av, lv, cv, rfl, _⟩ := id hu'
      obtain ⟨y1, y2⟩ := box_cell hbc
      have r1 := hR.cells k hk
      have r2 := hR.frozen k hk
      go_upto_region 5 with fail
      clear e1
      go_region_held3 (fun w' => w'.cell? ⟨w.heap.size + 1 + 1, 0, none⟩ = some (.slice (some ⟨w.heap.size + 1, 0, none⟩) lm lm)) (go_keep)
        (first | (go_at_call 48; refine (same_any _ _ X E _ ?_ ?_).mono ?_; exact i1.drewN 1; exact hu'.drewN 1; rintro e w5 ⟨rfl, rfl⟩))
      have q1 := hR.put (g := endTo s.marks E (k + 1)) hk (x := coversL X E && coversL E X) HE.out HO.out
      have bs : Below (w.heap.size + 1) wr (wr.setCell ⟨w.heap.size + 1, k, none⟩ (.bool (coversL X E && coversL E X))) := (Below.refl _ _).setCell (p := ⟨w.heap.size + 1, k, none⟩) (Nat.le_refl _) _
      have bc : (wr.setCell ⟨w.heap.size + 1, k, none⟩ (.bool (coversL X E && coversL E X))).heap[w.heap.size + 1 + 1]? = wr.heap[w.heap.size + 1 + 1]? := Below.heap_setCell _ _ _ _ (by show w.heap.size + 1 + 1 ≠ w.heap.size + 1; omega)
      obtain ⟨w5, Hw5⟩ : ∃ w5, Hid (wr.setCell ⟨w.heap.size + 1, k, none⟩ (.bool (coversL X E && coversL E X)) = w5) := ⟨_, rfl⟩
      have q2 := (bs.block w.heap.size (Nat.lt_succ_self _)).trans hbx
      have q3 := c.trans (bs.mono (Nat.le_succ _))
      rw [Hw5.out] at q1 bc q2 q3 ⊢
      have q4 := bc.trans hbc
      have dd : Below w5.heap.size w5 w5.drew := (Below.refl _ _).drew
      replace q1 := q1.below dd
      replace q2 := (dd.block _ (Array.getElem?_eq_some_iff.1 q2).1).trans q2
      replace q3 := below_then q3 dd
      replace q4 := (dd.block _ (Array.getElem?_eq_some_iff.1 q4).1).trans q4
      clear hR hbx hbc c r1 r2 y1 y2 bs bc Hw5 HE HO i1 hu'
      go_wp2
      go_roundg (gk - 1)
      case measure => omega
      case rel => exact ⟨k + 1, by omega, by go_num, q1, q2, q4, q3⟩
    · obtain rfl : k = lm := by omega
      clear hk
      have Hf : Hid (∀ j, j < k → endTo s.marks E k j = sameM (markAt s.marks j) E) := fun j hj => by simp [endTo, hj]
      obtain ⟨G, HG⟩ : ∃ G : Nat → Prop, Hid (G = fun j : Nat => ∃ i : Nat, i < k ∧ sameM (markAt s.marks i) E = true ∧ Comes s j i) := ⟨_, rfl⟩
      obtain ⟨f0, Hf0⟩ : ∃ f0, Hid (endTo s.marks E k = f0) := ⟨_, rfl⟩
      rw [Hf0.out] at hR Hf
      clear Hf0
      have hGa : ∀ a ∈ s.arcs, G a.2.2.toNat → G a.1.toNat := by
        intro a ha hq
        rw [HG.out] at hq ⊢
        obtain ⟨i, h1, h2, h3⟩ := hq
        obtain ⟨r1, r2, r3, r4⟩ := rightS_iff.1 hr a ha
        refine ⟨i, h1, h2, ?_⟩
        have e1 : ((a.2.2.toNat : Nat) : Int) = a.2.2 := Int.toNat_of_nonneg r3
        have e2 : ((a.1.toNat : Nat) : Int) = a.1 := Int.toNat_of_nonneg r1
        rw [e1] at h3
        rw [e2]
        exact fun P q0 q1 => h3 P (q1 a q0 ha) q1
      have hI0 : ComeI w s (.slice am k cm) (.slice aa la ca) (.slice (some ⟨w.heap.size + 1, 0, none⟩) k k) k G f0 (2 * cntF f0 k + 1) wr.heap.size true f0 [] [] (wr.alloc (.cells #[.bool true] 4)) := by
        have bn := below_new wr (.cells #[.bool true] 4)
        refine ⟨rfl, heap_alloc_at _ _, ?_, (bn.block _ (Array.getElem?_eq_some_iff.1 hbc).1).trans hbc, hR.below bn, (bn.block _ (Array.getElem?_eq_some_iff.1 hbx).1).trans hbx, fun _ h => h, fun j hj h => ?_, fun h => (by cases h), below_then c bn, ⟨rfl, List.nodup_nil, by simp⟩⟩
        · exact (Array.getElem?_eq_some_iff.1 hbc).1
        · rw [HG.out]; exact ⟨j, hj, by rw [← Hf.out j hj]; exact h, Comes.here _⟩
      have Hend : Hid (∀ f : Nat → Bool, (∀ j, f0 j = true → f j = true) → (∀ j, j < k → f j = true → G j) → (∀ a ∈ s.arcs, f a.2.2.toNat = true → f a.1.toNat = true) → ∀ j : Nat, j < k → (f j = true ↔ ∃ i : Nat, i < k ∧ sameM (markAt s.marks i) E = true ∧ Comes s j i)) := by
        intro f h1 h2 h3 j hj
        constructor
        · intro h; have := h2 j hj h; rw [HG.out] at this; exact this
        · rintro ⟨i, hi, hs, hc⟩
          have hfi : f i = true := h1 i (by rw [Hf.out i hi]; exact hs)
          have key : f ((j : Int).toNat) = true := by
            refine hc (fun z => (f (i : Int).toNat = true → f (j : Int).toNat = true) ∨ True) (.inr trivial) (fun _ _ _ => .inr trivial) |>.elim (fun h => h (by simpa using hfi)) (fun _ => ?_)
            refine Classical.byContradiction fun hn => ?_
            have := hc (fun z => f z.toNat = false) (by simpa using hn) (fun a ha hm => by
              cases hq : f a.2.2.toNat
              · rfl
              · rw [h3 a hm hq] at ha; cases ha)
            simp [hfi] at this
          simpa using key
      clear Hf HG hR hbx hbc c
      obtain ⟨w6, Hw6⟩ : ∃ w6, Hid (wr.alloc (.cells #[.bool true] 4) = w6) := ⟨_, rfl⟩
      rw [Hw6.out] at hI0
      go_wp2_with fail
      rw [Hw6.out]
      refine wp_loop_ghost_k (fun m a wr => ∃ (u0 u1 u3 u4 u6 u7 u9 u10 u11 u12 u13 u14 u15 u16 u17 u18 u19 u20 u21 u22 u23 u24 u25 u26 u27 u28 u29 u30 u31 u32 u33 u34 u35 u36 u37 u38 u39 u40 u41 u42 u43 u44 u45 u46 u47 u48 u49 u50 u51 u52 u53 u54 : Value) (b8 : Nat) (c : Bool) (f : Nat → Bool) (ds : List Deferred) (Ds : List Nat), ComeI w s (.slice am k cm) (.slice aa la ca) (.slice (some ⟨w.heap.size + 1, 0, none⟩) k k) k G f0 m b8 c f ds Ds wr ∧
        a = { tmps := #[u0, u1, .pointer (some ⟨w.heap.size, 0, none⟩), u3, u4, .pointer (some ⟨w.heap.size + 1 + 1, 0, none⟩), u6, u7, .pointer (some ⟨b8, 0, none⟩), u9, u10, u11, u12, u13, u14, u15, u16, u17, u18, u19, u20, u21, u22, u23, u24, u25, u26, u27, u28, u29, u30, u31, u32, u33, u34, u35, u36, u37, u38, u39, u40, u41, u42, u43, u44, u45, u46, u47, u48, u49, u50, u51, u52, u53, u54], defers := ds }) (2 * cntF f0 k + 1) ?_ ?_
      · exact ⟨_, _, _, _, _, _, _, _, _, _, _, _, _, _, _, _, _, _, _, _, _, _, _, _, _, _, _, _, _, _, _, _, _, _, _, _, _, _, _, _, _, _, _, _, _, _, _, _, _, _, _, _, _, _, _, _, _, hI0, rfl⟩
      · rintro m _ wr ⟨u0, u1, u3, u4, u6, u7, u9, u10, u11, u12, u13, u14, u15, u16, u17, u18, u19, u20, u21, u22, u23, u24, u25, u26, u27, u28, u29, u30, u31, u32, u33, u34, u35, u36, u37, u38, u39, u40, u41, u42, u43, u44, u45, u46, u47, u48, u49, u50, u51, u52, u53, u54, b8, c, f, ds, Ds, hI, rfl⟩ J K hJ hK
        clear hI0 Hw6
        obtain ⟨e8, f8⟩ := box_cell hI.more
        obtain ⟨e5, f5⟩ := box_cell hI.can
        obtain ⟨y0, y1, y2⟩ := box2_of hI.space
        cases c
        · have He : Hid _ := Hend.out f hI.grew hI.sound (hI.shut rfl)
          have hrow := hI.row
          have hbw := hI.below
          have hmk := hI.marks
          clear hI Hend hGa hM hA hu
          go_wp2
          refine leaves_marks (B := w.heap.size + 2) (fun W => BoolRow W (w.heap.size + 1) k f ∧ Below w.heap.size w W) ?_ ?_ hmk ⟨hrow, hbw⟩
          · rintro W D hD hW ⟨q1, q2⟩
            exact ⟨q1.grown (grownBy_putObj' W D _) (fun r e => by cases e; exact ⟨_, hW, rfl⟩), q2.trans (belowK_b (w := w) (Nat.le_refl _) W D _ _ (by omega) hW rfl rfl)⟩
          · intro W hW
            refine ⟨.slice (some ⟨w.heap.size + 1, 0, none⟩) k k, by simp [results, Try.f51, go_sem], ?_⟩
            exact ⟨w.heap.size + 1, rfl, f, hW.1, He.out, hW.2⟩
        · obtain ⟨w5, Hw5, hs5, h8', hB5, ho5, hbt5⟩ := come_round (av := .slice aa la ca) hI.more
          go_wp2_with fail
          refine (backward_any _ _ ⟨_, _, _, rfl⟩).mono ?_
          rintro e w2 ⟨rfl, rfl⟩
          go_wp2_with fail
          rw [Hw5.out]
          clear Hw5 e8 f8 e5 f5 y0 y1 y2
          have hfar := hI.far
          have hlt8 : b8 < wr.heap.size := (Array.getElem?_eq_some_iff.1 hI.more).1
          have hR5 : BoolRow w5 (w.heap.size + 1) k f := hI.row.keep (ho5 _ hI.row.lt (by omega))
          have hc5 := (ho5 _ (Array.getElem?_eq_some_iff.1 hI.can).1 (by omega)).trans hI.can
          have hsp5 := (ho5 _ (Array.getElem?_eq_some_iff.1 hI.space).1 (by omega)).trans hI.space
          have c5 : Below w.heap.size w w5 := hI.below.trans (hB5.mono (by omega))
          have hMk5 : Marked (w.heap.size + 2) ds Ds w5 := hI.marks.to fun k o hk ho => (ho5 k (Array.getElem?_eq_some_iff.1 hk).1 (fun e => by subst e; rw [hI.more] at hk; injection hk with hk; subst hk; cases ho)).trans hk
          have hDs : ∀ D ∈ Ds, D < w5.heap.size := fun D hD => (Array.getElem?_eq_some_iff.1 (hMk5.all D hD).2).1
          have hw5 : w.heap.size ≤ w5.heap.size := c5.size
          refine (wpIn_wide (n := 5)).1 ?_
          refine wpIn_rangeFunc_ownH rfl (by omega) (gf := 92) (lb := #[.pointer (some ⟨wr.heap.size, 0, none⟩)]) rfl trivial (enters_of Try.func92 (by kernel_rfl) rfl)
            (backward_stops (5 - 1) (by omega) w wr.heap.size _ s.arcs hA w5 c5 hbt5) keepT_t (keepT_b hw5 (by omega)) (Below.refl _ _) (fun _ => rfl)
            (fun pre W => ComeP w w5 k b8 G f pre W) (fun _ _ _ => False) (comeP_own hw5) (fun _ _ _ _ _ hs _ _ => hs)
            ⟨⟨false, f, h8', hR5, PassA.start hI.sound⟩, ⟨Nat.le_refl _, fun _ _ _ _ => rfl⟩, c5⟩
            (fun y a' W => ∃ b10, (w5.heap.size ≤ b10 ∧ W.heap[b10]? = some (.cells #[.int .i64 y.1.2.1, .int .i64 y.1.2.2.1, .int .i64 y.1.2.2.2] 79 (0, 0))) ∧ a' = { tmps := #[u0, u1, .pointer (some ⟨w.heap.size, 0, none⟩), u3, u4, .pointer (some ⟨w.heap.size + 1 + 1, 0, none⟩), u6, u7, .pointer (some ⟨b8, 0, none⟩), u9, .pointer (some ⟨b10, 0, none⟩), u11, u12, u13, u14, u15, u16, u17, u18, u19, u20, u21, u22, u23, u24, u25, u26, u27, u28, u29, .bool true, .pointer (some ⟨w.heap.size, 1, none⟩), .slice aa la ca, .func (.func 92) #[] #[.pointer (some ⟨wr.heap.size, 0, none⟩)], .int .i64 y.1.1, .agg #[.int .i64 y.1.2.1, .int .i64 y.1.2.2.1, .int .i64 y.1.2.2.2], u36, u37, u38, u39, u40, u41, u42, u43, u44, u45, u46, u47, u48, u49, u50, u51, u52, u53, u54], defers := [] })
            ?ax ?assign ?body ?done ?stop
          case ax =>
            rintro y a' _ W W' row ⟨b10, ⟨q1, q2⟩, rfl⟩ hg hrw
            refine ⟨b10, ⟨q1, ?_⟩, rfl⟩
            rw [hg.block b10 (Array.getElem?_eq_some_iff.1 q2).1 (fun e => by
              obtain ⟨_, o, z1, z2⟩ := hrw b10 e.symm
              rw [q2] at z1
              injection z1 with z1
              subst z1
              cases z2)]
            exact q2
          case stop =>
            rintro D c pre W _ _ h _
            exact h.elim
          case assign =>
            intro l pre y W K hP hK2
            dsimp only [arcV]
            gi_wp2
            have bn := below_new W (.cells #[.int .i64 y.1.2.1, .int .i64 y.1.2.2.1, .int .i64 y.1.2.2.2] 79)
            have hlw : w5.heap.size ≤ W.heap.size := hP.only.1
            exact hK2 _ _ (KeepsFrom.of_grownBy (World.grownBy_alloc W _ none) (fun j e => by cases e)) ⟨bn.mono hP.below.size, bn.block _ (by omega)⟩ ((comeP_own hw5).alloc _ hP) ⟨_, ⟨hlw, heap_alloc_at _ _⟩, rfl⟩
          case body =>
            rintro l pre y _ W _ _ hP ⟨b10, ⟨q1, q2⟩, rfl⟩ _
            obtain ⟨⟨b, g, h8, hg, hA2⟩, hO, hB⟩ := hP
            have hs2 := hO.1
            have hsn := arcsOf_snoc pre y
            obtain ⟨i0, i1, j0, j1⟩ := rightS_iff.1 hr y.1.2 y.2
            have hGy := hGa y.1.2 y.2
            obtain ⟨⟨ix, ⟨x1, x2, x3⟩⟩, hy⟩ := y
            simp only at i0 i1 j0 j1 hGy q2 hsn ⊢
            obtain ⟨i, rfl⟩ := Int.eq_ofNat_of_zero_le i0
            obtain ⟨j, rfl⟩ := Int.eq_ofNat_of_zero_le j0
            simp only [Int.toNat_natCast] at hGy
            have hil : i < k := by have := Hlm.out; omega
            have hjl : j < k := by have := Hlm.out; omega
            obtain ⟨e8, f8⟩ := box_cell h8
            obtain ⟨e5, f5⟩ := box_cell ((hO.2 _ (Array.getElem?_eq_some_iff.1 hc5).1 (by omega) (by omega)).trans hc5)
            have z0 : W.cell? ⟨b10, 0, none⟩ = some (.int .i64 (i : Int)) := by simp [World.cell?, q2]
            have z2 : W.cell? ⟨b10, 2, none⟩ = some (.int .i64 (j : Int)) := by simp [World.cell?, q2]
            have r1 := hg.cells j hjl
            have r2 := hg.cells i hil
            have r3 := hg.frozen i hil
            have HO : Hid _ := hO
            have HB : Hid _ := hB
            have Hg : Hid _ := hg
            have H8 : Hid _ := h8
            have HA : Hid _ := hA2
            clear hO hB hg h8 hA2 q2 hM hA hu hI hR5 hc5 hsp5 c5 hMk5 hDs hbt5 h8'
            cases hgj : g j
            · have R : Hid (PassA G k f g b (arcsOf (pre ++ [⟨(ix, ((i : Int), x2, (j : Int))), hy⟩]))) := by show PassA _ _ _ _ _ _; rw [hsn]; exact HA.out.stay (fun h => by simp only [Int.toNat_natCast] at h; rw [hgj] at h; cases h)
              rw [hgj] at r1
              gi_wp2
              exact ⟨KeepsFrom.refl _ _, ⟨Below.refl _ _, rfl⟩, ⟨b, g, H8.out, Hg.out, R.out⟩, HO.out, HB.out⟩
            · rw [hgj] at r1
              cases hgi : g i
              · rw [hgi] at r2
                have R : Hid (PassA G k f (updT g i) true (arcsOf (pre ++ [⟨(ix, ((i : Int), x2, (j : Int))), hy⟩]))) := by show PassA _ _ _ _ _ _; rw [hsn]; exact HA.out.note (x := i) (by simp) hil hgi (hGy (HA.out.sound j hjl hgj))
                have R1 : Hid (BoolRow (W.setCell ⟨w.heap.size + 1, i, none⟩ (.bool true)) (w.heap.size + 1) k (updT g i)) := Hg.out.put hil (updT_same g i) (fun t _ hne => updT_other g hne)
                have ne8 : b8 ≠ w.heap.size + 1 := by omega
                have R2 : Hid ((W.setCell ⟨w.heap.size + 1, i, none⟩ (.bool true)).heap[b8]? = some (.cells #[.bool b] 4 (0, 0))) := (Below.heap_setCell _ _ _ _ (by exact ne8)).trans H8.out
                have R3 : Hid (Only2 (w.heap.size + 1) b8 w5 (W.setCell ⟨w.heap.size + 1, i, none⟩ (.bool true))) := Only2.trans HO.out (Only2.ofB (OnlyB.set _ _ _ _))
                have R4 : Hid (Below w.heap.size w (W.setCell ⟨w.heap.size + 1, i, none⟩ (.bool true))) := HB.out.setCell (p := ⟨w.heap.size + 1, i, none⟩) (Nat.le_succ _) _
                have R5 : Hid (KeepsOthers W (W.setCell ⟨w.heap.size + 1, i, none⟩ (.bool true))) := KeepsOthers.setCell _ _ _
                have R6 : Hid (KeepT w.heap.size wr.heap.size W (W.setCell ⟨w.heap.size + 1, i, none⟩ (.bool true))) := ⟨(Below.refl _ _).setCell (p := ⟨w.heap.size + 1, i, none⟩) (Nat.le_succ _) _, Below.heap_setCell _ _ _ _ (by show wr.heap.size ≠ w.heap.size + 1; omega)⟩
                obtain ⟨W1, HW1⟩ : ∃ W1, Hid (W.setCell ⟨w.heap.size + 1, i, none⟩ (.bool true) = W1) := ⟨_, rfl⟩
                rw [HW1.out] at R1 R2 R3 R4 R5 R6
                obtain ⟨e8', f8'⟩ := box_cell R2.out
                have S1 : Hid (BoolRow (W1.setCell ⟨b8, 0, none⟩ (.bool true)) (w.heap.size + 1) k (updT g i)) := R1.out.other (by exact ne8) _
                have S2 : Hid ((W1.setCell ⟨b8, 0, none⟩ (.bool true)).heap[b8]? = some (.cells #[.bool true] 4 (0, 0))) := setBox R2.out
                have S3 : Hid (Only2 (w.heap.size + 1) b8 w5 (W1.setCell ⟨b8, 0, none⟩ (.bool true))) := Only2.trans R3.out (Only2.set _ _ _ _)
                have S4 : Hid (Below w.heap.size w (W1.setCell ⟨b8, 0, none⟩ (.bool true))) := R4.out.setCell (p := ⟨b8, 0, none⟩) (by show w.heap.size ≤ b8; omega) _
                have S5 : Hid (KeepsOthers W (W1.setCell ⟨b8, 0, none⟩ (.bool true))) := R5.out.trans (KeepsOthers.setCell _ _ _)
                have S6 : Hid (KeepT w.heap.size wr.heap.size W (W1.setCell ⟨b8, 0, none⟩ (.bool true))) := ⟨R6.out.1.setCell (p := ⟨b8, 0, none⟩) (by show w.heap.size ≤ b8; omega) _, (Below.heap_setCell _ _ _ _ (by show wr.heap.size ≠ b8; omega)).trans R6.out.2⟩
                gi_wp2_with fail
                first | rw [HW1.out] | skip
                exact ⟨S5.out.from _, S6.out, ⟨true, updT g i, S2.out, S1.out, R.out⟩, S3.out, S4.out⟩
              · rw [hgi] at r2
                have R : Hid (PassA G k f g b (arcsOf (pre ++ [⟨(ix, ((i : Int), x2, (j : Int))), hy⟩]))) := by show PassA _ _ _ _ _ _; rw [hsn]; exact HA.out.stay (fun _ => by simpa using hgi)
                gi_wp2
                exact ⟨KeepsFrom.refl _ _, ⟨Below.refl _ _, rfl⟩, ⟨b, g, H8.out, Hg.out, R.out⟩, HO.out, HB.out⟩
          case done =>
            rintro D ys W hD hys ⟨⟨b, g, h8, hg, hP⟩, hO, hB⟩ hKD
            rw [hys] at hP
            obtain ⟨e8, f8⟩ := box_cell h8
            have hs2 := hO.1
            have hC : Hid (ComeI w s (.slice am k cm) (.slice aa la ca) (.slice (some ⟨w.heap.size + 1, 0, none⟩) k k) k G f0 (2 * cntF g k + (if b then 1 else 0)) W.heap.size b g ({ target := .collected D, args := #[] } :: ds) (D :: Ds) (W.alloc (.cells #[.bool b] 4))) := by
              have bn := below_new W (.cells #[.bool b] 4)
              have hcW := (hO.2 _ (Array.getElem?_eq_some_iff.1 hc5).1 (by omega) (by omega)).trans hc5
              have hsW := (hO.2 _ (Array.getElem?_eq_some_iff.1 hsp5).1 (by omega) (by omega)).trans hsp5
              refine ⟨rfl, heap_alloc_at _ _, by omega, (bn.block _ (Array.getElem?_eq_some_iff.1 hcW).1).trans hcW, hg.below bn, (bn.block _ (Array.getElem?_eq_some_iff.1 hsW).1).trans hsW, fun j hj => hP.grew j (hI.grew j hj), hP.sound, fun e a ha => ?_, below_then hB bn, ?_⟩
              · rw [(hP.none e).1]; exact (hP.none e).2 a (by simpa using ha)
              · refine Marked.cons (hMk5.to2 fun t o hbt ht ho => ?_) (by omega) (fun h => by have := hDs D h; omega) ?_
                · have htl := (Array.getElem?_eq_some_iff.1 ht).1
                  rw [bn.block t (by omega), hO.2 t htl (by omega) (fun e => by subst e; rw [h8'] at ht; injection ht with ht; subst ht; cases ho)]
                  exact ht
                · rw [bn.block D (Array.getElem?_eq_some_iff.1 hKD).1]; exact hKD
            have hM2 : Hid (2 * cntF g k + (if b then 1 else 0) < m) := by
              show _ < _
              have hm := hI.meas
              cases b
              · rw [(hP.none rfl).1]; simp at hm ⊢; omega
              · have := hP.some rfl; simp at hm ⊢; omega
            clear hP hg hO hB hMk5 hDs hc5 hsp5 hR5 h8' c5 hbt5
            go_wp2
            refine Handed.intro _ hM2.out (hJ _ _ _ ⟨_, _, _, _, _, _, _, _, _, _, _, _, _, _, _, _, _, _, _, _, _, _, _, _, _, _, _, _, _, _, _, _, _, _, _, _, _, _, _, _, _, _, _, _, _, _, _, _, _, _, _, _, _, _, _, _, _, hC.out, rfl⟩)

end Go.Proofs.Ytkdbkoogcndlgaa

/- Plain words for what all marks of a net stay below. -/
namespace Go.Proofs.Ytkdbkoogcndlgaa
set_option linter.unusedVariables false
set_option maxRecDepth 4000

/-- Has a more than b? -1 is Many. -/
def moreL (a b : Int) : Bool := (b != -1) && ((a == -1) || decide (b < a))
theorem moreL_no {a b : Int} : moreL a b = false ↔ b = -1 ∨ (a ≠ -1 ∧ a ≤ b) := by
  unfold moreL
  rw [Bool.and_eq_false_iff, Bool.or_eq_false_iff, bne_eq_false_iff_eq, decide_eq_false_iff_not, beq_eq_false_iff_ne]
  omega
theorem moreL_yes {a b : Int} : moreL a b = true ↔ b ≠ -1 ∧ (a = -1 ∨ b < a) := by
  unfold moreL
  rw [Bool.and_eq_true, Bool.or_eq_true, bne_iff_ne, decide_eq_true_eq, beq_iff_eq]

def belowTo (a b : List Int) (k : Nat) : Bool := (List.range k).all fun p => !moreL (nth a p) (nth b p)
/-- Nowhere more. -/
def belowL (a b : List Int) : Bool := belowTo a b b.length
theorem belowTo_succ (a b : List Int) (k : Nat) : belowTo a b (k + 1) = (belowTo a b k && !moreL (nth a k) (nth b k)) := by
  simp [belowTo, List.range_succ]
theorem belowTo_iff (a b : List Int) (k : Nat) : belowTo a b k = true ↔ ∀ p, p < k → moreL (nth a p) (nth b p) = false := by
  simp [belowTo, List.all_eq_true]
theorem belowL_iff (a b : List Int) : belowL a b = true ↔ ∀ p, p < b.length → moreL (nth a p) (nth b p) = false := belowTo_iff a b b.length
theorem belowTo_no {a b : List Int} {k : Nat} (hk : k < b.length) (h : moreL (nth a k) (nth b k) = true) : belowL a b = false := by
  cases e : belowL a b
  · rfl
  · rw [(belowL_iff a b).1 e k hk] at h; cases h

def mapTo (k : Nat) (f : Nat → Int) : List Int := (List.range k).map f
theorem mapTo_succ (k : Nat) (f : Nat → Int) : mapTo (k + 1) f = mapTo k f ++ [f k] := by simp [mapTo, List.range_succ]
theorem mapTo_length (k : Nat) (f : Nat → Int) : (mapTo k f).length = k := by simp [mapTo]
theorem mapTo_nth (k : Nat) (f : Nat → Int) (p : Nat) (h : p < k) : nth (mapTo k f) p = f p := by simp [mapTo, nth, List.getD, h]

/-- What firing comes to. -/
def omAt (t : TranL) (m : List Int) (p : Nat) : Int := if nth m p = -1 then -1 else nth m p - nth t.pre p + nth t.post p
def omFire (t : TranL) (m : List Int) : List Int := mapTo m.length (omAt t m)

/-- Those places where x has more than y have Many, if y is below x. -/
def raiseAt (y x : List Int) (p : Nat) : Int := if moreL (nth x p) (nth y p) then -1 else nth x p
def raise1 (y x : List Int) : List Int := if belowL y x then mapTo x.length (raiseAt y x) else x
def raiseAll (mine : List (List Int)) (x : List Int) : List Int := mine.foldl (fun x y => raise1 y x) x
def raiseN (mine : List (List Int)) (x : List Int) : Nat → List Int
  | 0 => x
  | r + 1 => raiseAll mine (raiseN mine x r)

/-- As it was, but where it has Many. -/
def Raised (x z : List Int) : Prop := z.length = x.length ∧ ∀ p, nth z p = -1 ∨ nth z p = nth x p
theorem Raised.refl (x : List Int) : Raised x x := ⟨rfl, fun _ => .inr rfl⟩
theorem Raised.trans {x y z : List Int} (h : Raised x y) (k : Raised y z) : Raised x z := by
  refine ⟨k.1.trans h.1, fun p => ?_⟩
  rcases k.2 p with e | e
  · exact .inl e
  · rw [e]; exact h.2 p
theorem raise1_raised (y x : List Int) : Raised x (raise1 y x) := by
  unfold raise1
  split
  · refine ⟨mapTo_length _ _, fun p => ?_⟩
    by_cases hp : p < x.length
    · rw [mapTo_nth _ _ _ hp, raiseAt]
      split
      · exact .inl rfl
      · exact .inr rfl
    · rw [nth_past _ p (by rw [mapTo_length]; omega), nth_past x p (by omega)]; exact .inr rfl
  · exact Raised.refl x
theorem raiseAll_raised (mine : List (List Int)) : ∀ x, Raised x (raiseAll mine x) := by
  induction mine with
  | nil => exact fun x => Raised.refl x
  | cons y r ih => exact fun x => (raise1_raised y x).trans (ih (raise1 y x))
theorem raiseN_raised (mine : List (List Int)) (x : List Int) : ∀ r, Raised x (raiseN mine x r)
  | 0 => Raised.refl x
  | r + 1 => (raiseN_raised mine x r).trans (raiseAll_raised mine _)
/-- Where nothing has Many, it is as it was. -/
theorem Raised.same {x z : List Int} (h : Raised x z) (hz : ∀ p, nth z p ≠ -1) : z = x := eq_of_at h.1 fun p => by
  rcases h.2 p with e | e
  · exact absurd e (hz p)
  · exact e

/-- Where nobody is below with less somewhere, nothing is changed. -/
theorem raise_still {mine : List (List Int)} {x : List Int} (h : ∀ y ∈ mine, belowL y x = true → ∀ p, p < x.length → moreL (nth x p) (nth y p) = false) (r : Nat) : raiseN mine x r = x := by
  have h1 : ∀ y ∈ mine, raise1 y x = x := by
    intro y hy
    unfold raise1
    split
    · rename_i hb
      refine eq_of_at (mapTo_length _ _) fun p => ?_
      by_cases hp : p < x.length
      · rw [mapTo_nth _ _ _ hp, raiseAt, h y hy hb p hp]; rfl
      · rw [nth_past _ p (by rw [mapTo_length]; omega), nth_past x p (by omega)]
    · rfl
  have h2 : raiseAll mine x = x := by
    clear h
    unfold raiseAll
    induction mine with
    | nil => rfl
    | cons y l ih => rw [List.foldl_cons, h1 y (by simp)]; exact ih fun z hz => h1 z (by simp [hz])
  induction r with
  | zero => rfl
  | succ r ih => rw [raiseN, ih, h2]

/-- A knot, with the marks that it comes of. -/
structure KnotX where
  up : Int
  tran : Int
  mark : List Int
  line : List (List Int)

/-- A knot as it is answered. -/
structure KnotL where
  up : Int
  tran : Int
  mark : List Int

def KnotX.knot (x : KnotX) : KnotL := ⟨x.up, x.tran, x.mark⟩
def KnotX.mine (x : KnotX) : List (List Int) := x.line ++ [x.mark]
def noKnot : KnotX := ⟨0, 0, [], []⟩
def knotAt (s : List KnotX) (k : Nat) : KnotX := s.getD k noKnot
theorem knotAt_append {s r : List KnotX} {k : Nat} (h : k < s.length) : knotAt (s ++ r) k = knotAt s k := by
  rw [knotAt, knotAt, List.getD_eq_getElem?_getD, List.getD_eq_getElem?_getD, List.getElem?_append_left h]
theorem knotAt_last (s : List KnotX) (x : KnotX) : knotAt (s ++ [x]) s.length = x := by
  rw [knotAt, List.getD_eq_getElem?_getD, List.getElem?_append_right (Nat.le_refl _)]; simp
theorem knotAt_get {s : List KnotX} {k : Nat} (h : k < s.length) : knotAt s k = s[k] := by
  rw [knotAt, List.getD_eq_getElem?_getD, List.getElem?_eq_getElem h]; rfl

/-- What comes of a knot by a transition. -/
def kid (n : NetL) (k t : Nat) (x : KnotX) : KnotX := ⟨k, t, raiseN x.mine (omFire (tranAt n.trans t) x.mark) (n.places.toNat + 1), x.mine⟩
def growT (n : NetL) (most k : Nat) (s : List KnotX) (t : Nat) : Option (List KnotX) :=
  if belowL (tranAt n.trans t).pre (knotAt s k).mark then (if most ≤ s.length then none else some (s ++ [kid n k t (knotAt s k)])) else some s
def growTo (n : NetL) (most k : Nat) (s : List KnotX) : Nat → Option (List KnotX)
  | 0 => some s
  | t + 1 => (growTo n most k s t).bind fun s' => growT n most k s' t
def seenK (x : KnotX) : Bool := x.line.contains x.mark
def rootK (m : List Int) : KnotX := ⟨-1, -1, m, []⟩
/-- The first k knots are done. -/
def treeTo (n : NetL) (m : List Int) (most : Nat) : Nat → Option (List KnotX)
  | 0 => some [rootK m]
  | k + 1 => (treeTo n m most k).bind fun s => if k < s.length then (if seenK (knotAt s k) then some s else growTo n most k s n.trans.length) else some s

def treeL (n : NetL) (m : List Int) (most : Int) : List KnotL × Int :=
  if graphOk n m most then
    match treeTo n m most.toNat most.toNat with
    | some s => (s.map KnotX.knot, 0)
    | none => ([], 4)
  else ([], 2)

/-- The most at a place. -/
def topL (p : Nat) (l : List KnotL) (x : Int) : Int := l.foldl (fun x k => if moreL (nth k.mark p) x then nth k.mark p else x) x
def limitL (n : NetL) (m : List Int) (p most : Int) : Int × Int :=
  if (treeL n m most).2 == 0 then (if decide (0 ≤ p) && decide (p < n.places) then (topL p.toNat (treeL n m most).1 0, 0) else (0, 3)) else (0, (treeL n m most).2)

/-- What holds while knots come: k knots are done, and t transitions of knot k. -/
structure Grown (n : NetL) (m : List Int) (most k t : Nat) (s : List KnotX) : Prop where
  most_le : s.length ≤ most
  pos : 0 < s.length
  first : knotAt s 0 = rootK m
  child : ∀ j, 0 < j → j < s.length → ∃ u t', u < j ∧ t' < n.trans.length ∧ belowL (tranAt n.trans t').pre (knotAt s u).mark = true ∧ knotAt s j = kid n u t' (knotAt s u)
  whole : ∀ f j, f < s.length → j < n.trans.length → (f < k ∨ f = k ∧ j < t) → seenK (knotAt s f) = true ∨ belowL (tranAt n.trans j).pre (knotAt s f).mark = false ∨ ∃ g, g < s.length ∧ knotAt s g = kid n f j (knotAt s f)

theorem Grown.start {n : NetL} {m : List Int} {most : Nat} (hm : 1 ≤ most) : Grown n m most 0 0 [rootK m] where
  most_le := hm
  pos := Nat.one_pos
  first := rfl
  child := by intro j h1 h2; simp at h2; omega
  whole := by intro f j h1 h2 h3; omega

theorem Grown.step {n : NetL} {m : List Int} {most k t : Nat} {s s' : List KnotX} (h : Grown n m most k t s) (hk : k < s.length) (ht : t < n.trans.length) (e : growT n most k s t = some s') :
    Grown n m most k (t + 1) s' ∧ s.length ≤ s'.length ∧ ∀ j, j < s.length → knotAt s' j = knotAt s j := by
  unfold growT at e
  split at e
  · rename_i hb
    split at e
    · cases e
    · rename_i hl
      injection e with e
      subst e
      have hlen : (s ++ [kid n k t (knotAt s k)]).length = s.length + 1 := by simp
      refine ⟨⟨by omega, by omega, by rw [knotAt_append h.pos]; exact h.first, ?_, ?_⟩, by omega, fun j hj => knotAt_append hj⟩
      · intro j h1 h2
        by_cases hj : j < s.length
        · obtain ⟨u, t', q1, q2, q3, q4⟩ := h.child j h1 hj
          exact ⟨u, t', q1, q2, by rw [knotAt_append (by omega)]; exact q3, by rw [knotAt_append hj, knotAt_append (by omega)]; exact q4⟩
        · have e : j = s.length := by omega
          subst e
          exact ⟨k, t, hk, ht, by rw [knotAt_append hk]; exact hb, by rw [knotAt_last, knotAt_append hk]⟩
      · intro f j h1 h2 h3
        have hf : f < s.length := by omega
        rw [knotAt_append hf]
        by_cases hn : f = k ∧ j = t
        · obtain ⟨rfl, rfl⟩ := hn
          exact .inr (.inr ⟨s.length, by omega, by rw [knotAt_last]⟩)
        · rcases h.whole f j hf h2 (by omega) with q | q | ⟨g, q1, q2⟩
          · exact .inl q
          · exact .inr (.inl q)
          · exact .inr (.inr ⟨g, by omega, by rw [knotAt_append q1]; exact q2⟩)
  · rename_i hb
    injection e with e
    subst e
    refine ⟨⟨h.most_le, h.pos, h.first, h.child, ?_⟩, Nat.le_refl _, fun j _ => rfl⟩
    intro f j h1 h2 h3
    by_cases hn : f = k ∧ j = t
    · obtain ⟨rfl, rfl⟩ := hn
      exact .inr (.inl (by simpa using hb))
    · exact h.whole f j h1 h2 (by omega)

theorem growTo_grown {n : NetL} {m : List Int} {most k : Nat} {s : List KnotX} (h : Grown n m most k 0 s) (hk : k < s.length) : ∀ (t : Nat) {s' : List KnotX}, t ≤ n.trans.length → growTo n most k s t = some s' →
    Grown n m most k t s' ∧ s.length ≤ s'.length ∧ ∀ j, j < s.length → knotAt s' j = knotAt s j
  | 0, s', _, e => by rw [growTo] at e; injection e with e; subst e; exact ⟨h, Nat.le_refl _, fun _ _ => rfl⟩
  | t + 1, s', ht, e => by
    rw [growTo] at e
    cases e1 : growTo n most k s t with
    | none => rw [e1] at e; cases e
    | some s1 =>
      rw [e1] at e
      obtain ⟨g1, l1, k1⟩ := growTo_grown h hk t (by omega) e1
      obtain ⟨g2, l2, k2⟩ := g1.step (Nat.lt_of_lt_of_le hk l1) (by omega) e
      exact ⟨g2, Nat.le_trans l1 l2, fun j hj => (k2 j (Nat.lt_of_lt_of_le hj l1)).trans (k1 j hj)⟩

theorem treeTo_grown {n : NetL} {m : List Int} {most : Nat} (hm : 1 ≤ most) : ∀ (k : Nat) {s : List KnotX}, treeTo n m most k = some s → Grown n m most k 0 s
  | 0, s, e => by rw [treeTo] at e; injection e with e; subst e; exact Grown.start hm
  | k + 1, s, e => by
    rw [treeTo] at e
    cases e1 : treeTo n m most k with
    | none => rw [e1] at e; cases e
    | some s1 =>
      have g1 := treeTo_grown hm k e1
      rw [e1] at e
      simp only [Option.bind_some] at e
      split at e
      · rename_i hk
        split at e
        · rename_i hs
          injection e with e
          subst e
          refine ⟨g1.most_le, g1.pos, g1.first, g1.child, ?_⟩
          intro f j h1 h2 h3
          by_cases hf : f = k
          · subst hf; exact .inl hs
          · exact g1.whole f j h1 h2 (by omega)
        · obtain ⟨g2, _, _⟩ := growTo_grown g1 hk _ (Nat.le_refl _) e
          exact ⟨g2.most_le, g2.pos, g2.first, g2.child, fun f j h1 h2 h3 => g2.whole f j h1 h2 (by omega)⟩
      · rename_i hk
        injection e with e
        subst e
        exact ⟨g1.most_le, g1.pos, g1.first, g1.child, fun f j h1 h2 h3 => g1.whole f j h1 h2 (by omega)⟩

/-- A tree that is whole. -/
structure TreeOk (n : NetL) (m : List Int) (s : List KnotX) : Prop where
  room : s.length ≤ 300
  fits : fitsL n m = true
  pos : 0 < s.length
  first : knotAt s 0 = rootK m
  child : ∀ j, 0 < j → j < s.length → ∃ u t', u < j ∧ t' < n.trans.length ∧ belowL (tranAt n.trans t').pre (knotAt s u).mark = true ∧ knotAt s j = kid n u t' (knotAt s u)
  whole : ∀ f j, f < s.length → j < n.trans.length → seenK (knotAt s f) = true ∨ belowL (tranAt n.trans j).pre (knotAt s f).mark = false ∨ ∃ g, g < s.length ∧ knotAt s g = kid n f j (knotAt s f)

theorem treeL_ok {n : NetL} {m : List Int} {most : Int} {l : List KnotL} (h : treeL n m most = (l, 0)) : ∃ s, l = s.map KnotX.knot ∧ TreeOk n m s := by
  unfold treeL at h
  split at h
  · rename_i hg
    simp only [graphOk, Bool.and_eq_true, decide_eq_true_eq] at hg
    split at h
    · rename_i s e
      simp only [Prod.mk.injEq, and_true] at h
      have g := treeTo_grown (by omega) _ e
      exact ⟨s, h.symm, by have := g.most_le; omega, hg.2, g.pos, g.first, g.child, fun f j h1 h2 => g.whole f j h1 h2 (.inl (by have := g.most_le; omega))⟩
    · simp at h
  · simp at h
theorem treeL_err {n : NetL} {m : List Int} {most : Int} (h : (treeL n m most).2 ≠ 0) : (treeL n m most).1 = [] := by
  unfold treeL at h ⊢
  split
  · rename_i hg
    rw [if_pos hg] at h
    split at h
    · simp at h
    · rfl
  · rfl
theorem treeL_code (n : NetL) (m : List Int) (most : Int) : (treeL n m most).2 = 0 ∨ (treeL n m most).2 = 2 ∨ (treeL n m most).2 = 4 := by
  unfold treeL
  split
  · split
    · exact .inl rfl
    · exact .inr (.inr rfl)
  · exact .inr (.inl rfl)

end Go.Proofs.Ytkdbkoogcndlgaa

/- Plain words for nets with a beginning and an end. -/
namespace Go.Proofs.Ytkdbkoogcndlgaa
set_option linter.unusedVariables false
set_option maxRecDepth 4000

/-- One token, at one place. -/
def startL (P i : Int) : List Int := mapTo (min P 16).toNat fun p => if (p : Int) = i then 1 else 0

theorem start_length (P i : Int) : (startL P i).length = (min P 16).toNat := mapTo_length _ _

theorem start_at (P i : Int) (p : Nat) (hp : p < (min P 16).toNat) : nth (startL P i) p = if (p : Int) = i then 1 else 0 := mapTo_nth _ _ _ hp

theorem start_bounds (P i : Int) (p : Nat) : 0 ≤ nth (startL P i) p ∧ nth (startL P i) p ≤ 1 := by
  by_cases hp : p < (min P 16).toNat
  · rw [start_at P i p hp]
    split <;> omega
  · rw [nth_past _ _ (by rw [start_length]; omega)]; omega

theorem start_right (P i : Int) : rightL (startL P i) = true := (rightL_iff _).2 fun j => by have := start_bounds P i j; omega

/-- Which places are behind a place. -/
def WayP (n : NetL) (f p : Nat) : Prop := ∀ Q : Nat → Prop, Q f → (∀ k a b, k < n.trans.length → Q a → nth (tranAt n.trans k).pre a ≠ 0 → nth (tranAt n.trans k).post b ≠ 0 → Q b) → Q p
/-- Which transitions are. -/
def WayT (n : NetL) (f k : Nat) : Prop := ∃ p, WayP n f p ∧ nth (tranAt n.trans k).pre p ≠ 0

theorem WayP.here (n : NetL) (f : Nat) : WayP n f f := fun Q h _ => h
theorem WayP.step {n : NetL} {f k a b : Nat} (h : WayP n f a) (hk : k < n.trans.length) (h1 : nth (tranAt n.trans k).pre a ≠ 0) (h2 : nth (tranAt n.trans k).post b ≠ 0) : WayP n f b :=
  fun Q q1 q2 => q2 k a b hk (h Q q1 q2) h1 h2

structure ShapeOk (n : NetL) (i o : Int) : Prop where
  ok : netOk n = true
  ne : i ≠ o
  i0 : 0 ≤ i
  i1 : i < n.places
  o0 : 0 ≤ o
  o1 : o < n.places
  p1 : ∀ p : Nat, (p : Int) < n.places → WayP n i.toNat p
  p2 : ∀ p : Nat, (p : Int) < n.places → WayP (turnL n) o.toNat p
  t1 : ∀ k, k < n.trans.length → WayT n i.toNat k
  t2 : ∀ k, k < n.trans.length → WayT (turnL n) o.toNat k
  put : ∀ k, k < n.trans.length → nth (tranAt n.trans k).post i.toNat = 0
  take : ∀ k, k < n.trans.length → nth (tranAt n.trans k).pre o.toNat = 0

/-- What is wrong. -/
structure Judged (n : NetL) (i o e : Int) : Prop where
  bad : netOk n = false → e = 2
  form : netOk n = true → ¬ ShapeOk n i o → e = 1
  right : ShapeOk n i o → e = 0

theorem Judged.unique {n : NetL} {i o e f : Int} (h : Judged n i o e) (k : Judged n i o f) : e = f := by
  cases hn : netOk n with
  | false => rw [h.bad hn, k.bad hn]
  | true =>
    by_cases hs : ShapeOk n i o
    · rw [h.right hs, k.right hs]
    · rw [h.form hn hs, k.form hn hs]

theorem Judged.of_bad {n : NetL} {i o : Int} (h : netOk n = false) : Judged n i o 2 := ⟨fun _ => rfl, fun q => (by rw [h] at q; cases q), fun q => (by have := q.ok; rw [h] at this; cases this)⟩
theorem Judged.of_form {n : NetL} {i o : Int} (h : netOk n = true) (hs : ¬ ShapeOk n i o) : Judged n i o 1 := ⟨fun q => (by rw [h] at q; cases q), fun _ _ => rfl, fun q => absurd q hs⟩
theorem Judged.of_right {n : NetL} {i o : Int} (hs : ShapeOk n i o) : Judged n i o 0 := ⟨fun q => (by have := hs.ok; rw [q] at this; cases this), fun _ q => absurd hs q, fun _ => rfl⟩
theorem Judged.zero {n : NetL} {i o : Int} (h : Judged n i o 0) : ShapeOk n i o := by
  cases hn : netOk n with
  | false => have := h.bad hn; omega
  | true =>
    by_cases hs : ShapeOk n i o
    · exact hs
    · have := h.form hn hs; omega
theorem Judged.not_zero {n : NetL} {i o e : Int} (h : Judged n i o e) (he : e ≠ 0) : ¬ ShapeOk n i o := fun hs => he (h.right hs)

theorem turn_back (n : NetL) : turnL (turnL n) = n := by
  unfold turnL
  simp only [List.map_map]
  cases n with
  | mk P ts =>
    congr 1
    have : (turnT ∘ turnT) = id := by funext t; exact turn_turn t
    rw [this, List.map_id]

theorem turn_ok_iff (n : NetL) : netOk (turnL n) = netOk n := by
  cases h : netOk n with
  | true => exact turn_ok n h
  | false =>
    cases h2 : netOk (turnL n) with
    | false => rfl
    | true =>
      have h3 := turn_ok _ h2
      rw [turn_back, h] at h3
      cases h3

theorem turn_count (n : NetL) : (turnL n).trans.length = n.trans.length := by simp [turnL]

theorem turn_tran (n : NetL) {k : Nat} (hk : k < n.trans.length) : tranAt (turnL n).trans k = turnT (tranAt n.trans k) := turn_at _ _ hk

/-- The other way round it has one, too. -/
theorem ShapeOk.turned {n : NetL} {i o : Int} (h : ShapeOk n i o) : ShapeOk (turnL n) o i where
  ok := by rw [turn_ok_iff]; exact h.ok
  ne := fun e => h.ne e.symm
  i0 := h.o0
  i1 := h.o1
  o0 := h.i0
  o1 := h.i1
  p1 := h.p2
  p2 := by rw [turn_back]; exact h.p1
  t1 := by rw [turn_count]; exact h.t2
  t2 := by rw [turn_back, turn_count]; exact h.t1
  put := by
    rw [turn_count]
    intro k hk
    rw [turn_tran n hk]
    exact h.take k hk
  take := by
    rw [turn_count]
    intro k hk
    rw [turn_tran n hk]
    exact h.put k hk

theorem Judged.turned {n : NetL} {i o e : Int} (h : Judged n i o e) : Judged (turnL n) o i e where
  bad := by rw [turn_ok_iff]; exact h.bad
  form := by
    rw [turn_ok_iff]
    exact fun q hs => h.form q fun k => hs k.turned
  right := fun hs => h.right (by have := hs.turned; rwa [turn_back] at this)

/-- With one more transition, from the end to the beginning. -/
def closeL (n : NetL) (i o : Int) : NetL := ⟨n.places, n.trans ++ [⟨0, startL n.places o, startL n.places i⟩]⟩

/-- What Close answers. -/
structure Closed (n : NetL) (i o : Int) (c : NetL) (e : Int) : Prop where
  right : ShapeOk n i o → n.trans.length < 24 → e = 0 ∧ c = closeL n i o
  full : ShapeOk n i o → ¬ n.trans.length < 24 → e = 4 ∧ c = ⟨0, []⟩
  bad : ¬ ShapeOk n i o → Judged n i o e ∧ c = ⟨0, []⟩

theorem Closed.unique {n c d : NetL} {i o e f : Int} (h : Closed n i o c e) (k : Closed n i o d f) : c = d ∧ e = f := by
  by_cases hs : ShapeOk n i o
  · by_cases hl : n.trans.length < 24
    · obtain ⟨h1, h2⟩ := h.right hs hl
      obtain ⟨k1, k2⟩ := k.right hs hl
      exact ⟨by rw [h2, k2], by rw [h1, k1]⟩
    · obtain ⟨h1, h2⟩ := h.full hs hl
      obtain ⟨k1, k2⟩ := k.full hs hl
      exact ⟨by rw [h2, k2], by rw [h1, k1]⟩
  · obtain ⟨h1, h2⟩ := h.bad hs
    obtain ⟨k1, k2⟩ := k.bad hs
    exact ⟨by rw [h2, k2], h1.unique k1⟩

theorem Closed.zero {n c : NetL} {i o : Int} (h : Closed n i o c 0) : ShapeOk n i o ∧ n.trans.length < 24 ∧ c = closeL n i o := by
  by_cases hs : ShapeOk n i o
  · by_cases hl : n.trans.length < 24
    · exact ⟨hs, hl, (h.right hs hl).2⟩
    · have := (h.full hs hl).1; omega
  · obtain ⟨h1, h2⟩ := h.bad hs
    exact absurd h1.zero hs

theorem Closed.none {n c : NetL} {i o e : Int} (h : Closed n i o c e) (he : e ≠ 0) : c = ⟨0, []⟩ := by
  by_cases hs : ShapeOk n i o
  · by_cases hl : n.trans.length < 24
    · exact absurd (h.right hs hl).1 he
    · exact (h.full hs hl).2
  · exact (h.bad hs).2

theorem head_of {n : NetL} (h : netOk n = true) : 0 ≤ n.places ∧ n.places ≤ 16 ∧ n.trans.length ≤ 24 := by
  simp only [netOk, headOk, Bool.and_eq_true, decide_eq_true_eq] at h
  exact ⟨h.1.1.1, h.1.1.2, h.1.2⟩

theorem start_len {n : NetL} (h : netOk n = true) (i : Int) : ((startL n.places i).length : Int) = n.places := by
  obtain ⟨h0, h1, _⟩ := head_of h
  rw [start_length]; omega

theorem start_fits {n : NetL} (h : netOk n = true) (i : Int) : fitsL n (startL n.places i) = true := fits_mk h (start_len h i) (start_right _ _)

theorem mem_nth {xs : List Int} {x : Int} (h : x ∈ xs) : ∃ j, j < xs.length ∧ nth xs j = x := by
  obtain ⟨j, hj, e⟩ := List.getElem_of_mem h
  exact ⟨j, hj, by simp [nth, List.getD, List.getElem?_eq_getElem hj, e]⟩

theorem start_tran {n : NetL} (h : netOk n = true) (i o : Int) : tranOk n.places ⟨0, startL n.places o, startL n.places i⟩ = true := by
  have l1 := start_len h o
  have l2 := start_len h i
  simp only [tranOk, tranHead, Bool.and_eq_true, beq_iff_eq, decide_eq_true_eq, List.all_eq_true, List.mem_append]
  refine ⟨⟨⟨⟨by omega, by omega⟩, l1⟩, l2⟩, ?_⟩
  rintro x (hx | hx)
  all_goals
    obtain ⟨j, _, rfl⟩ := mem_nth hx
    simp only [weightOk, Bool.and_eq_true, decide_eq_true_eq]
  · have := start_bounds n.places o j; omega
  · have := start_bounds n.places i j; omega

theorem close_ok {n : NetL} (h : netOk n = true) (hl : n.trans.length < 24) (i o : Int) : netOk (closeL n i o) = true := by
  obtain ⟨h0, h1, _⟩ := head_of h
  have hs := start_tran h i o
  simp only [netOk, Bool.and_eq_true] at h
  simp only [netOk, headOk, closeL, Bool.and_eq_true, List.length_append, List.length_cons, List.length_nil, List.all_append, List.all_cons, List.all_nil]
  exact ⟨⟨⟨decide_eq_true h0, decide_eq_true h1⟩, decide_eq_true (by omega)⟩, h.2, hs, trivial⟩

theorem close_count (n : NetL) (i o : Int) : (closeL n i o).trans.length = n.trans.length + 1 := by simp [closeL]

theorem close_at (n : NetL) (i o : Int) {k : Nat} (hk : k < n.trans.length) : tranAt (closeL n i o).trans k = tranAt n.trans k := by
  unfold closeL tranAt List.getD
  simp [List.getElem?_append, hk]

theorem close_last (n : NetL) (i o : Int) : tranAt (closeL n i o).trans n.trans.length = ⟨0, startL n.places o, startL n.places i⟩ := by
  unfold closeL tranAt List.getD
  simp

theorem close_fits {n : NetL} (h : netOk n = true) (hl : n.trans.length < 24) (i o : Int) (m : List Int) : fitsL (closeL n i o) m = fitsL n m := by
  unfold fitsL
  rw [close_ok h hl, h]
  rfl

theorem close_fire {n : NetL} (h : netOk n = true) (hl : n.trans.length < 24) (i o : Int) (m : List Int) {t : Int} (ht : t ≠ n.trans.length) : fireL (closeL n i o) m t = fireL n m t := by
  unfold fireL
  rw [close_fits h hl, close_count]
  have e : decide (t < ((n.trans.length + 1 : Nat) : Int)) = decide (t < (n.trans.length : Int)) := by rw [decide_eq_decide]; omega
  rw [e]
  by_cases q : 0 ≤ t ∧ t < n.trans.length
  · rw [close_at n i o (show t.toNat < n.trans.length by omega)]
  · have f : (decide (0 ≤ t) && decide (t < (n.trans.length : Int))) = false := by
      rw [Bool.and_eq_false_iff, decide_eq_false_iff_not, decide_eq_false_iff_not]
      omega
    rw [f]
    simp

theorem close_run {n : NetL} (h : netOk n = true) (hl : n.trans.length < 24) (i o : Int) (seq : List Int) : ∀ (m : List Int), (n.trans.length : Int) ∉ seq → runL (closeL n i o) m seq = runL n m seq := by
  induction seq with
  | nil => intro m _; unfold runL; rw [close_fits h hl]
  | cons t ts ih =>
    intro m hm
    simp only [List.mem_cons, not_or] at hm
    rw [runL_cons, runL_cons, close_fits h hl, close_fire h hl i o m (fun e => hm.1 e.symm), ih _ hm.2]

/-- From the end the beginning is come to by one firing. -/
theorem close_round {n : NetL} (h : netOk n = true) (hl : n.trans.length < 24) (i o : Int) : fireL (closeL n i o) (startL n.places o) (n.trans.length : Nat) = (startL n.places i, 0) := by
  have hk : n.trans.length < (closeL n i o).trans.length := by rw [close_count]; omega
  have e : addL (subL (startL n.places o) (startL n.places o)) (startL n.places i) = startL n.places i := by
    refine eq_of_at ?_ fun j => ?_
    · rw [add_length, sub_length]
      simp only [start_length]
      omega
    · rw [add_at, sub_at]; omega
  have hf : fitsL (closeL n i o) (startL n.places o) = true := by rw [close_fits h hl]; exact start_fits h o
  have := fire_mk hk hf (by rw [close_last]; exact covers_self _) (by rw [close_last]; simp only; rw [e]; exact start_right _ _)
  rw [this, close_last]
  simp only
  rw [e]

/-- What was closed has no beginning. -/
theorem close_form {n : NetL} {i o : Int} (hs : ShapeOk n i o) (hl : n.trans.length < 24) : ¬ ShapeOk (closeL n i o) i o := by
  intro q
  have h1 := q.put n.trans.length (by rw [close_count]; omega)
  rw [close_last] at h1
  simp only at h1
  obtain ⟨h0, h16, _⟩ := head_of hs.ok
  have := hs.i0
  have := hs.i1
  rw [start_at n.places i i.toNat (by omega), if_pos (by omega)] at h1
  omega

theorem close_same (n : NetL) (i o : Int) : (closeL n i o).trans.take n.trans.length = n.trans := by simp [closeL]

/-! ### at the end nothing goes on -/
theorem end_none {n : NetL} {i o : Int} (hs : ShapeOk n i o) : canTo n (startL n.places o) n.trans.length = [] := by
  rw [List.eq_nil_iff_forall_not_mem]
  intro t ht
  obtain ⟨k, rfl, hk, hc⟩ := (can_mem n _ _ _).1 ht
  obtain ⟨p, _, hp⟩ := hs.t1 k hk
  have hcp := (coversL_iff _ _).1 hc p
  have hpo : (p : Int) ≠ o := fun e => hp (by have := hs.take k hk; rw [← e, Int.toNat_natCast] at this; exact this)
  have hb := (okTok_nth (tran_right (net_tran hs.ok hk)).1 p).1
  have : nth (startL n.places o) p = 0 := by
    by_cases q : p < (min n.places 16).toNat
    · rw [start_at _ _ _ q, if_neg hpo]
    · exact nth_past _ _ (by rw [start_length]; omega)
  omega

/-- Nothing comes to the beginning again. -/
theorem run_low {n : NetL} {i o : Int} (hs : ShapeOk n i o) (seq : List Int) : ∀ {m x : List Int}, runL n m seq = (x, 0) → nth m i.toNat = 0 → nth x i.toNat = 0 := by
  induction seq with
  | nil => intro m x h h0; obtain ⟨_, rfl⟩ := run_nil.1 h; exact h0
  | cons t ts ih =>
    intro m x h h0
    obtain ⟨y, h1, h2⟩ := run_cons.1 h
    refine ih h2 ?_
    obtain ⟨k, rfl, hk, hf, hc, hr, rfl⟩ := fire_ok h1
    have h3 := (coversL_iff _ _).1 hc i.toNat
    have h4 := (okTok_nth (tran_right (net_tran hs.ok hk)).1 i.toNat).1
    rw [add_at, sub_at, hs.put k hk]
    omega

theorem run_gone {n : NetL} {i o : Int} (hs : ShapeOk n i o) {seq x : List Int} (h : runL n (startL n.places i) seq = (x, 0)) (h0 : seq ≠ []) : nth x i.toNat = 0 := by
  cases seq with
  | nil => exact absurd rfl h0
  | cons t ts =>
    obtain ⟨y, h1, h2⟩ := run_cons.1 h
    refine run_low hs ts h2 ?_
    obtain ⟨k, rfl, hk, hf, hc, hr, rfl⟩ := fire_ok h1
    obtain ⟨p, _, hp⟩ := hs.t1 k hk
    have hcp := (coversL_iff _ _).1 hc p
    have hb := (okTok_nth (tran_right (net_tran hs.ok hk)).1 p).1
    have hsb := start_bounds n.places i p
    have hpi : (p : Int) = i := by
      by_cases q : p < (min n.places 16).toNat
      · rw [start_at _ _ _ q] at hcp
        by_cases e : (p : Int) = i
        · exact e
        · rw [if_neg e] at hcp; omega
      · rw [nth_past (startL n.places i) p (by rw [start_length]; omega)] at hcp; omega
    have : i.toNat = p := by omega
    rw [add_at, sub_at, hs.put k hk, this]
    omega

end Go.Proofs.Ytkdbkoogcndlgaa

/- Plain facts on trees that cover: nothing rises above them, what has nowhere Many is bounded, where there are Many there is no end. -/
namespace Go.Proofs.Ytkdbkoogcndlgaa
set_option linter.unusedVariables false
set_option maxRecDepth 4000

theorem tran_weights {n : NetL} (hn : netOk n = true) {k : Nat} (hk : k < n.trans.length) (j : Nat) :
    (0 ≤ nth (tranAt n.trans k).pre j ∧ nth (tranAt n.trans k).pre j ≤ 9) ∧ 0 ≤ nth (tranAt n.trans k).post j ∧ nth (tranAt n.trans k).post j ≤ 9 := by
  have h := net_tran hn hk
  simp only [tranOk, tranHead, Bool.and_eq_true, List.all_append] at h
  have go : ∀ {xs : List Int}, xs.all weightOk = true → ∀ j, 0 ≤ nth xs j ∧ nth xs j ≤ 9 := by
    intro xs h j
    by_cases hj : j < xs.length
    · have := List.all_eq_true.1 h _ (List.getElem_mem hj)
      simp only [weightOk, Bool.and_eq_true, decide_eq_true_eq] at this
      simpa only [nth, List.getD, List.getElem?_eq_getElem hj, Option.getD_some] using this
    · rw [nth_past xs j (by omega)]; omega
  exact ⟨go h.2.1 j, go h.2.2 j⟩

/-- The shape of a mark of knot j. -/
def MarkOk (n : NetL) (j : Nat) (x : List Int) : Prop := (x.length : Int) = n.places ∧ ∀ p, -1 ≤ nth x p ∧ nth x p ≤ 1000000 + 9 * (j : Int)

theorem omFire_at {n : NetL} (hn : netOk n = true) {t : Nat} (ht : t < n.trans.length) {x : List Int} (hb : belowL (tranAt n.trans t).pre x = true) {j : Nat} (hx : MarkOk n j x) (p : Nat) :
    -1 ≤ nth (omFire (tranAt n.trans t) x) p ∧ nth (omFire (tranAt n.trans t) x) p ≤ 1000000 + 9 * (j : Int) + 9 := by
  obtain ⟨w1, w2⟩ := tran_weights hn ht p
  obtain ⟨x1, x2⟩ := hx.2 p
  unfold omFire
  by_cases hp : p < x.length
  · rw [mapTo_nth _ _ _ hp, omAt]
    have := (belowL_iff _ _).1 hb p hp
    rw [moreL_no] at this
    split <;> omega
  · rw [nth_past _ p (by rw [mapTo_length]; omega)]; omega
theorem kid_ok {n : NetL} (hn : netOk n = true) {u t : Nat} (ht : t < n.trans.length) {x : KnotX} (hb : belowL (tranAt n.trans t).pre x.mark = true) {j : Nat} (hx : MarkOk n u x.mark) (hu : u < j) : MarkOk n j (kid n u t x).mark := by
  obtain ⟨r1, r2⟩ := raiseN_raised x.mine (omFire (tranAt n.trans t) x.mark) (n.places.toNat + 1)
  refine ⟨by show ((raiseN _ _ _).length : Int) = _; rw [r1, omFire, mapTo_length]; exact hx.1, fun p => ?_⟩
  have h := omFire_at hn ht hb hx p
  show -1 ≤ nth (raiseN _ _ _) p ∧ nth (raiseN _ _ _) p ≤ _
  rcases r2 p with e | e <;> rw [e] <;> omega

theorem marks_ok {n : NetL} {m : List Int} {s : List KnotX} (hf : fitsL n m = true) (h0 : knotAt s 0 = rootK m)
    (hc : ∀ j, 0 < j → j < s.length → ∃ u t', u < j ∧ t' < n.trans.length ∧ belowL (tranAt n.trans t').pre (knotAt s u).mark = true ∧ knotAt s j = kid n u t' (knotAt s u)) :
    ∀ j, j < s.length → MarkOk n j (knotAt s j).mark := by
  obtain ⟨hn, hl, hr⟩ := fits_net hf
  intro j
  induction j using Nat.strongRecOn with
  | ind j ih =>
    intro hj
    by_cases e : j = 0
    · subst e
      rw [h0]
      refine ⟨hl, fun p => ?_⟩
      have := (rightL_iff m).1 hr p
      show -1 ≤ nth m p ∧ nth m p ≤ _
      omega
    · obtain ⟨u, t, hu, ht, hb, e1⟩ := hc j (by omega) hj
      rw [e1]
      exact kid_ok hn ht hb (ih u hu (by omega)) hu
theorem TreeOk.marks {n : NetL} {m : List Int} {s : List KnotX} (h : TreeOk n m s) {j : Nat} (hj : j < s.length) : MarkOk n j (knotAt s j).mark := marks_ok h.fits h.first h.child j hj
theorem Grown.marks {n : NetL} {m : List Int} {most k t : Nat} {s : List KnotX} (h : Grown n m most k t s) (hf : fitsL n m = true) {j : Nat} (hj : j < s.length) : MarkOk n j (knotAt s j).mark := marks_ok hf h.first h.child j hj

/-- What a knot comes of are marks of knots ahead of it. -/
theorem line_mem {n : NetL} {m : List Int} {s : List KnotX} (h0 : knotAt s 0 = rootK m)
    (hc : ∀ j, 0 < j → j < s.length → ∃ u t', u < j ∧ t' < n.trans.length ∧ belowL (tranAt n.trans t').pre (knotAt s u).mark = true ∧ knotAt s j = kid n u t' (knotAt s u)) :
    ∀ j, j < s.length → ∀ y ∈ (knotAt s j).line, ∃ i, i < j ∧ (knotAt s i).mark = y := by
  intro j
  induction j using Nat.strongRecOn with
  | ind j ih =>
    intro hj y hy
    by_cases e : j = 0
    · subst e; rw [h0] at hy; simp [rootK] at hy
    · obtain ⟨u, t, hu, ht, hb, e1⟩ := hc j (by omega) hj
      rw [e1] at hy
      rcases List.mem_append.1 (show y ∈ (knotAt s u).line ++ [(knotAt s u).mark] from hy) with q | q
      · obtain ⟨i, h1, h2⟩ := ih u hu (by omega) y q
        exact ⟨i, by omega, h2⟩
      · exact ⟨u, hu, (List.mem_singleton.1 q).symm⟩

theorem line_len {n : NetL} {m : List Int} {s : List KnotX} (h0 : knotAt s 0 = rootK m)
    (hc : ∀ j, 0 < j → j < s.length → ∃ u t', u < j ∧ t' < n.trans.length ∧ belowL (tranAt n.trans t').pre (knotAt s u).mark = true ∧ knotAt s j = kid n u t' (knotAt s u)) :
    ∀ j, j < s.length → (knotAt s j).line.length ≤ j := by
  intro j
  induction j using Nat.strongRecOn with
  | ind j ih =>
    intro hj
    by_cases e : j = 0
    · subst e; rw [h0]; simp [rootK]
    · obtain ⟨u, t, hu, ht, hb, e1⟩ := hc j (by omega) hj
      have := ih u hu (by omega)
      rw [e1]
      show ((knotAt s u).line ++ [(knotAt s u).mark]).length ≤ j
      simp; omega
theorem Grown.line {n : NetL} {m : List Int} {most k t : Nat} {s : List KnotX} (h : Grown n m most k t s) {j : Nat} (hj : j < s.length) : (knotAt s j).line.length ≤ j := line_len h.first h.child j hj

theorem Grown.mineLen {n : NetL} {m : List Int} {most k t : Nat} {s : List KnotX} (h : Grown n m most k t s) (hf : fitsL n m = true) {i : Nat} (hi : i < s.length) {j : Nat} (hj : j < (knotAt s i).mine.length) : ((markAt (knotAt s i).mine j).length : Int) = n.places := by
  rcases List.mem_append.1 (show markAt (knotAt s i).mine j ∈ (knotAt s i).line ++ [(knotAt s i).mark] from markAt_mem hj) with q | q
  · obtain ⟨u, h1, h2⟩ := line_mem h.first h.child i hi _ q
    rw [← h2]; exact (h.marks hf (by omega)).1
  · rw [List.mem_singleton] at q; rw [q]; exact (h.marks hf hi).1

/-- Each mark is one of a knot that nothing ahead is the same as. -/
theorem TreeOk.unseen {n : NetL} {m : List Int} {s : List KnotX} (h : TreeOk n m s) : ∀ j, j < s.length → ∃ i, i < s.length ∧ (knotAt s i).mark = (knotAt s j).mark ∧ seenK (knotAt s i) = false := by
  intro j
  induction j using Nat.strongRecOn with
  | ind j ih =>
    intro hj
    cases hs : seenK (knotAt s j)
    · exact ⟨j, hj, rfl, hs⟩
    · obtain ⟨i, h1, h2⟩ := line_mem h.first h.child j hj _ (List.contains_iff_mem.1 hs)
      obtain ⟨i', q1, q2, q3⟩ := ih i h1 (by omega)
      exact ⟨i', q1, q2.trans h2, q3⟩

/-- At each place as many, or Many. -/
def CovM (u x : List Int) : Prop := u.length = x.length ∧ ∀ p, p < x.length → nth u p = -1 ∨ nth x p ≤ nth u p

theorem TreeOk.cov_step {n : NetL} {m x y : List Int} {s : List KnotX} {t : Int} (h : TreeOk n m s) (hx : ∃ k, k < s.length ∧ CovM (knotAt s k).mark x) (hf : fireL n x t = (y, 0)) : ∃ k, k < s.length ∧ CovM (knotAt s k).mark y := by
  obtain ⟨k0, hk0, hc0⟩ := hx
  obtain ⟨k, hk, e, hu⟩ := h.unseen k0 hk0
  have hc : CovM (knotAt s k).mark x := by rw [e]; exact hc0
  obtain ⟨j, rfl, hj, hfx, hcv, _, rfl⟩ := fire_ok hf
  rw [coversL_iff] at hcv
  obtain ⟨hn, hl, hr⟩ := fits_net hfx
  obtain ⟨l1, l2⟩ := tran_length hn hj
  have hb : belowL (tranAt n.trans j).pre (knotAt s k).mark = true := by
    rw [belowL_iff]
    intro p hp
    rw [moreL_no]
    have := hcv p
    obtain ⟨⟨w1, _⟩, _⟩ := tran_weights hn hj p
    rcases hc.2 p (by rw [← hc.1]; exact hp) with q | q
    · exact .inl q
    · exact .inr (by omega)
  rcases h.whole k j hk hj with q | q | ⟨g, hg, e2⟩
  · rw [q] at hu; cases hu
  · rw [q] at hb; cases hb
  · refine ⟨g, hg, ?_⟩
    rw [e2]
    obtain ⟨r1, r2⟩ := raiseN_raised (knotAt s k).mine (omFire (tranAt n.trans j) (knotAt s k).mark) (n.places.toNat + 1)
    have hlen : (addL (subL x (tranAt n.trans j).pre) (tranAt n.trans j).post).length = x.length := by rw [add_length, sub_length]; omega
    refine ⟨by rw [hlen, ← hc.1]; exact r1.trans (mapTo_length _ _), fun p hp => ?_⟩
    rw [hlen] at hp
    show nth (raiseN _ _ _) p = -1 ∨ _ ≤ nth (raiseN _ _ _) p
    rcases r2 p with q | q
    · exact .inl q
    · rw [q, omFire, mapTo_nth _ _ _ (by rw [hc.1]; exact hp), omAt, add_at, sub_at]
      split
      · exact .inl rfl
      · rename_i hne
        rcases hc.2 p hp with q2 | q2
        · exact absurd q2 hne
        · exact .inr (by omega)

theorem TreeOk.cov_run {n : NetL} {m : List Int} {s : List KnotX} (h : TreeOk n m s) (seq : List Int) : ∀ {a x : List Int}, (∃ k, k < s.length ∧ CovM (knotAt s k).mark a) → runL n a seq = (x, 0) → ∃ k, k < s.length ∧ CovM (knotAt s k).mark x := by
  induction seq with
  | nil => intro a x ha e; obtain ⟨_, rfl⟩ := run_nil.1 e; exact ha
  | cons t ts ih => intro a x ha e; obtain ⟨z, h1, h2⟩ := run_cons.1 e; exact ih (h.cov_step ha h1) h2
/-- Nothing rises above it. -/
theorem TreeOk.covers {n : NetL} {m x : List Int} {s : List KnotX} (h : TreeOk n m s) {seq : List Int} (e : runL n m seq = (x, 0)) : ∃ k, k < s.length ∧ CovM (knotAt s k).mark x :=
  h.cov_run seq ⟨0, h.pos, by rw [h.first]; exact ⟨rfl, fun p _ => .inr (Int.le_refl _)⟩⟩ e

/-- A firing, however many tokens there are. -/
def StepZ (n : NetL) (x : List Int) (t : Nat) (y : List Int) : Prop := t < n.trans.length ∧ (∀ p, nth (tranAt n.trans t).pre p ≤ nth x p) ∧ y = addL (subL x (tranAt n.trans t).pre) (tranAt n.trans t).post
/-- What is come to by firings. -/
def ReachZ (n : NetL) (a b : List Int) : Prop := ∀ P : List Int → Prop, P a → (∀ (x y : List Int) (t : Nat), P x → StepZ n x t y → P y) → P b
theorem ReachZ.here {n : NetL} {a : List Int} : ReachZ n a a := fun _ h _ => h
theorem ReachZ.step {n : NetL} {a x y : List Int} {t : Nat} (h : ReachZ n a x) (hs : StepZ n x t y) : ReachZ n a y := fun P h0 h1 => h1 x y t (h P h0 h1) hs
theorem ReachZ.ind {n : NetL} {a : List Int} {motive : (b : List Int) → ReachZ n a b → Prop} (here : motive a ReachZ.here) (step : ∀ {x y : List Int} {t : Nat} (h : ReachZ n a x) (hs : StepZ n x t y), motive x h → motive y (h.step hs)) {b : List Int} (h : ReachZ n a b) : motive b h := by
  obtain ⟨h', q⟩ := h (fun b => ∃ h : ReachZ n a b, motive b h) ⟨ReachZ.here, here⟩ (fun x y t ⟨hx, qx⟩ hs => ⟨hx.step hs, step hx hs qx⟩)
  exact q
theorem ReachZ.trans {n : NetL} {a b c : List Int} (h : ReachZ n a b) (k : ReachZ n b c) : ReachZ n a c := by
  induction k using ReachZ.ind with
  | here => exact h
  | step _ hs ih => exact ih.step hs
theorem ReachZ.length {n : NetL} (hn : netOk n = true) {a b : List Int} (h : ReachZ n a b) (ha : (a.length : Int) = n.places) : (b.length : Int) = n.places := by
  induction h using ReachZ.ind with
  | here => exact ha
  | step _ hs ih =>
    obtain ⟨ht, _, rfl⟩ := hs
    obtain ⟨l1, l2⟩ := tran_length hn ht
    rw [add_length, sub_length]; omega
theorem StepZ.nonneg {n : NetL} (hn : netOk n = true) {x y : List Int} {t : Nat} (h : StepZ n x t y) (p : Nat) : 0 ≤ nth y p := by
  obtain ⟨ht, hc, rfl⟩ := h
  have := hc p
  have := (tran_weights hn ht p).2
  rw [add_at, sub_at]; omega
/-- With so much more it can be done as well. -/
theorem ReachZ.more {n : NetL} (hn : netOk n = true) {a b d : List Int} (h : ReachZ n a b) (ha : (a.length : Int) = n.places) (hd : (d.length : Int) = n.places) (h0 : ∀ p, 0 ≤ nth d p) : ReachZ n (addL a d) (addL b d) := by
  induction h using ReachZ.ind with
  | here => exact .here
  | @step x y t hr hs ih =>
    refine ih.step (t := t) ?_
    have hx := hr.length hn ha
    obtain ⟨ht, hc, rfl⟩ := hs
    obtain ⟨l1, l2⟩ := tran_length hn ht
    refine ⟨ht, fun p => by rw [add_at]; have := hc p; have := h0 p; omega, eq_of_at (by simp only [add_length, sub_length]; omega) fun p => by simp only [add_at, sub_at]; omega⟩

theorem omFire_plain {n : NetL} (hn : netOk n = true) {t : Nat} (ht : t < n.trans.length) {x : List Int} (hl : (x.length : Int) = n.places) (h : ∀ p, nth x p ≠ -1) : omFire (tranAt n.trans t) x = addL (subL x (tranAt n.trans t).pre) (tranAt n.trans t).post := by
  obtain ⟨l1, l2⟩ := tran_length hn ht
  refine eq_of_at (by rw [omFire, mapTo_length, add_length, sub_length]; omega) fun p => ?_
  rw [add_at, sub_at]
  by_cases hp : p < x.length
  · rw [omFire, mapTo_nth _ _ _ hp, omAt, if_neg (h p)]
  · rw [omFire, nth_past _ p (by rw [mapTo_length]; omega), nth_past x p (by omega), nth_past (tranAt n.trans t).pre p (by omega), nth_past (tranAt n.trans t).post p (by omega)]; rfl
theorem below_plain {n : NetL} (hn : netOk n = true) {t : Nat} (ht : t < n.trans.length) {x : List Int} (hl : (x.length : Int) = n.places) (h : ∀ p, nth x p ≠ -1) : belowL (tranAt n.trans t).pre x = true ↔ ∀ p, nth (tranAt n.trans t).pre p ≤ nth x p := by
  obtain ⟨l1, l2⟩ := tran_length hn ht
  rw [belowL_iff]
  constructor
  · intro q p
    by_cases hp : p < x.length
    · have := q p hp; rw [moreL_no] at this; have := h p; omega
    · rw [nth_past _ p (by omega), nth_past x p (by omega)]; omega
  · intro q p hp
    rw [moreL_no]
    have := q p
    have := (tran_weights hn ht p).1
    omega

/-- Where the first J knots have nowhere Many, they are come to; and what they come of leads to them. -/
theorem TreeOk.exact {n : NetL} {m : List Int} {s : List KnotX} (h : TreeOk n m s) {J : Nat} (hJ : J ≤ s.length) (hm : ∀ i, i < J → ∀ p, nth (knotAt s i).mark p ≠ -1) : ∀ i, i < J →
    ReachZ n m (knotAt s i).mark ∧ ∀ y ∈ (knotAt s i).line, ReachZ n m y ∧ ReachZ n y (knotAt s i).mark := by
  obtain ⟨hn, hl, hr⟩ := fits_net h.fits
  intro i
  induction i using Nat.strongRecOn with
  | ind i ih =>
    intro hi
    by_cases e : i = 0
    · subst e
      rw [h.first]
      exact ⟨.here, fun y hy => by simp [rootK] at hy⟩
    · obtain ⟨u, t, hu, ht, hb, e1⟩ := h.child i (by omega) (by omega)
      obtain ⟨q1, q2⟩ := ih u hu (by omega)
      have hmu := hm u (by omega)
      have hlu := (h.marks (j := u) (by omega)).1
      have hz : (knotAt s i).mark = addL (subL (knotAt s u).mark (tranAt n.trans t).pre) (tranAt n.trans t).post := by
        have r := raiseN_raised (knotAt s u).mine (omFire (tranAt n.trans t) (knotAt s u).mark) (n.places.toNat + 1)
        have := r.same (fun p => by have := hm i hi p; rw [e1] at this; exact this)
        rw [e1]
        exact this.trans (omFire_plain hn ht hlu hmu)
      have hst : StepZ n (knotAt s u).mark t (knotAt s i).mark := ⟨ht, (below_plain hn ht hlu hmu).1 hb, hz⟩
      refine ⟨q1.step hst, fun y hy => ?_⟩
      rw [e1] at hy
      rcases List.mem_append.1 (show y ∈ (knotAt s u).line ++ [(knotAt s u).mark] from hy) with q | q
      · exact ⟨(q2 y q).1, (q2 y q).2.step hst⟩
      · rw [List.mem_singleton] at q; subst q; exact ⟨q1, ReachZ.here.step hst⟩

/-- Where nothing has Many, all that is come to is there. -/
theorem TreeOk.all {n : NetL} {m x : List Int} {s : List KnotX} (h : TreeOk n m s) (hm : ∀ i, i < s.length → ∀ p, nth (knotAt s i).mark p ≠ -1) (hr : ReachZ n m x) : ∃ k, k < s.length ∧ (knotAt s k).mark = x := by
  obtain ⟨hn, hl, _⟩ := fits_net h.fits
  induction hr using ReachZ.ind with
  | here => exact ⟨0, h.pos, by rw [h.first]; rfl⟩
  | @step x y t _ hs ih =>
    obtain ⟨k0, hk0, e0⟩ := ih
    obtain ⟨k, hk, e, hu⟩ := h.unseen k0 hk0
    rw [e0] at e
    obtain ⟨ht, hc, rfl⟩ := hs
    have hlk := (h.marks hk).1
    have hb := (below_plain hn ht hlk (hm k hk)).2 (by rw [e]; exact hc)
    rcases h.whole k t hk ht with q | q | ⟨g, hg, e2⟩
    · rw [q] at hu; cases hu
    · rw [q] at hb; cases hb
    · refine ⟨g, hg, ?_⟩
      have r := raiseN_raised (knotAt s k).mine (omFire (tranAt n.trans t) (knotAt s k).mark) (n.places.toNat + 1)
      have := r.same (fun p => by have := hm g hg p; rw [e2] at this; exact this)
      rw [e2, ← e]
      exact this.trans (omFire_plain hn ht hlk (hm k hk))

theorem run_reachZ {n : NetL} (seq : List Int) : ∀ {a x : List Int}, runL n a seq = (x, 0) → ReachZ n a x := by
  induction seq with
  | nil => intro a x e; obtain ⟨_, rfl⟩ := run_nil.1 e; exact .here
  | cons t ts ih =>
    intro a x e
    obtain ⟨z, h1, h2⟩ := run_cons.1 e
    obtain ⟨j, rfl, hj, _, hc, _, rfl⟩ := fire_ok h1
    exact (ReachZ.here.step ⟨hj, (coversL_iff _ _).1 hc, rfl⟩).trans (ih h2)

theorem fire_code {n : NetL} {x : List Int} (hf : fitsL n x = true) {t : Nat} (ht : t < n.trans.length) (hc : ∀ p, nth (tranAt n.trans t).pre p ≤ nth x p) : (fireL n x t).2 ≠ 3 := by
  unfold fireL
  rw [hf, decide_eq_true (show (0 : Int) ≤ t by omega), decide_eq_true (show (t : Int) < n.trans.length by omega), Int.toNat_natCast, (coversL_iff _ _).2 hc]
  simp only [Bool.and_true, if_true]
  split <;> simp

/-- What is come to is among all marks. -/
theorem Whole.has {n : NetL} {m x : List Int} {s : SpaceL} (h : Whole n m s) (hr : ReachZ n m x) : ∃ g, g < s.marks.length ∧ markAt s.marks g = x := by
  induction hr using ReachZ.ind with
  | here => exact ⟨0, h.here⟩
  | @step x y t _ hs ih =>
    obtain ⟨f, hf, rfl⟩ := ih
    obtain ⟨ht, hc, rfl⟩ := hs
    have hfit : fitsL n (markAt s.marks f) = true := by obtain ⟨_, _, hF, _⟩ := h; exact hF.fits _ (markAt_mem hf)
    rcases h.fire hf t with q | ⟨j, g, e, _, hg, e2⟩
    · exact absurd q (fire_code hfit ht hc)
    · obtain ⟨j', e3, _, _, _, _, e4⟩ := fire_ok e2
      have : j' = t := by omega
      subst this
      exact ⟨g, hg, e4⟩
theorem Whole.fits {n : NetL} {m : List Int} {s : SpaceL} (h : Whole n m s) {g : Nat} (hg : g < s.marks.length) : fitsL n (markAt s.marks g) = true := by
  obtain ⟨_, _, hF, _⟩ := h; exact hF.fits _ (markAt_mem hg)

/-- What was found is come to. -/
theorem Found.reachZ {n : NetL} {m : List Int} {most k t : Nat} {s : SpaceL} (h : Found n m most k t s) : ∀ g, g < s.marks.length → ReachZ n m (markAt s.marks g) := by
  intro g
  induction g using Nat.strongRecOn with
  | ind g ih =>
    intro hg
    by_cases e : g = 0
    · subst e; rw [h.first]; exact .here
    · obtain ⟨a, ha, hlt⟩ := h.par g (by omega) hg
      obtain ⟨h1, h2⟩ := firstTo_mem ha
      obtain ⟨q1, q2, q3, q4, q5⟩ := h.sound a h1
      obtain ⟨j, e3, hj, _, hc, _, e4⟩ := fire_ok q5
      rw [h2] at e4
      exact (ih a.frm hlt q1).step ⟨hj, (coversL_iff _ _).1 hc, e4⟩

/-- What has nowhere Many is bounded: or there are more tokens than marks may have. -/
theorem TreeOk.full {n : NetL} {m : List Int} {s : List KnotX} (h : TreeOk n m s) (hm : ∀ i, i < s.length → ∀ p, nth (knotAt s i).mark p ≠ -1) (hg : (graphL n m 300).2 ≠ 0) : ∃ k p, k < s.length ∧ 1000000 < nth (knotAt s k).mark p := by
  obtain ⟨hn, hl, _⟩ := fits_net h.fits
  have hno : graphTo n m 300 300 = none := by
    unfold graphL at hg
    rw [graphOk_300 h.fits] at hg
    simp only [if_true] at hg
    cases e : graphTo n m 300 300 with
    | none => rfl
    | some sp => exact absurd (show _ from hg) (by rw [show (300 : Int).toNat = 300 from rfl, e]; simp)
  obtain ⟨f, j, sp, hj, hF, hf, ht⟩ := graph_broke (by omega) h.fits 300 hno
  have hfit := hF.fits _ (markAt_mem hf)
  have hz := hF.reachZ f hf
  unfold tryT at ht
  split at ht
  · cases ht
  · rename_i h3
    have hcv : coversL (markAt sp.marks f) (tranAt n.trans j).pre = true := by
      cases hc : coversL (markAt sp.marks f) (tranAt n.trans j).pre
      · refine absurd ?_ h3
        unfold fireL
        rw [hfit, Int.toNat_natCast, hc]; simp
      · rfl
    have hst : StepZ n (markAt sp.marks f) j (addL (subL (markAt sp.marks f) (tranAt n.trans j).pre) (tranAt n.trans j).post) := ⟨hj, (coversL_iff _ _).1 hcv, rfl⟩
    cases hr : rightL (addL (subL (markAt sp.marks f) (tranAt n.trans j).pre) (tranAt n.trans j).post)
    · obtain ⟨k, hk, e⟩ := h.all hm (hz.step hst)
      have hnr : ¬ ∀ p, 0 ≤ nth (knotAt s k).mark p ∧ nth (knotAt s k).mark p ≤ 1000000 := by rw [← rightL_iff, e, hr]; simp
      rw [Classical.not_forall] at hnr
      obtain ⟨p, hp⟩ := hnr
      have := hst.nonneg hn p
      rw [← e] at this
      exact ⟨k, p, hk, by omega⟩
    · have e1 := fire_mk hj hfit hcv hr
      rw [e1] at ht
      simp only [BEq.rfl, if_true] at ht
      split at ht
      · cases ht
      · rename_i hfn
        split at ht
        · rename_i hlen
          exfalso
          have hx := findM_none hfn
          have hnd : (sp.marks ++ [addL (subL (markAt sp.marks f) (tranAt n.trans j).pre) (tranAt n.trans j).post]).Nodup := by
            rw [List.nodup_append]
            exact ⟨hF.nodup, by simp, fun a ha b hb e => by rw [List.mem_singleton] at hb; subst hb; subst e; exact hx ha⟩
          have := nodup_sub (l2 := s.map KnotX.mark) hnd (fun x hx => by
            have hxz : ReachZ n m x := by
              rcases List.mem_append.1 hx with q | q
              · obtain ⟨i, hi, rfl⟩ := List.getElem_of_mem q
                have := hF.reachZ i hi
                rw [markAt, List.getD_eq_getElem?_getD, List.getElem?_eq_getElem hi] at this
                exact this
              · rw [List.mem_singleton] at q; subst q; exact hz.step hst
            obtain ⟨k, hk, e⟩ := h.all hm hxz
            rw [← e, knotAt_get hk]
            exact List.mem_map.2 ⟨s[k], List.getElem_mem hk, rfl⟩)
          simp at this
          have := h.room
          omega
        · cases ht

theorem TreeOk.same {n : NetL} {m : List Int} {s : List KnotX} {sp : SpaceL} (h : TreeOk n m s) (hm : ∀ i, i < s.length → ∀ p, nth (knotAt s i).mark p ≠ -1) (hg : graphL n m 300 = (sp, 0)) :
    (∀ g, g < sp.marks.length → ∃ k, k < s.length ∧ (knotAt s k).mark = markAt sp.marks g) ∧ ∀ k, k < s.length → ∃ g, g < sp.marks.length ∧ markAt sp.marks g = (knotAt s k).mark := by
  have hw := graphL_whole hg
  refine ⟨fun g hlt => ?_, fun k hk => hw.has (h.exact (Nat.le_refl _) hm k hk).1⟩
  obtain ⟨_, _, hF, _⟩ := hw
  exact h.all hm (hF.reachZ g hlt)

/-- Where there are Many there is no end. -/
theorem TreeOk.many {n : NetL} {m : List Int} {s : List KnotX} (h : TreeOk n m s) (hm : ∃ i p, i < s.length ∧ nth (knotAt s i).mark p = -1) : (graphL n m 300).2 = 4 := by
  obtain ⟨hn, hl, hr⟩ := fits_net h.fits
  have main : ∀ sp, graphL n m 300 ≠ (sp, 0) := by
    intro sp hg
    have hw := graphL_whole hg
    -- the first knot that has Many
    have hex : ∃ i, i < s.length ∧ (∃ p, nth (knotAt s i).mark p = -1) ∧ ∀ i', i' < i → ∀ p, nth (knotAt s i').mark p ≠ -1 := by
      obtain ⟨i, p, hi, hp⟩ := hm
      clear hg hw
      induction i using Nat.strongRecOn generalizing p with
      | ind i ih =>
        by_cases hall : ∀ i', i' < i → ∀ p, nth (knotAt s i').mark p ≠ -1
        · exact ⟨i, hi, ⟨p, hp⟩, hall⟩
        · rw [Classical.not_forall] at hall
          obtain ⟨i', hall⟩ := hall
          rw [Classical.not_imp] at hall
          obtain ⟨hi', hall⟩ := hall
          rw [Classical.not_forall] at hall
          obtain ⟨p', hp'⟩ := hall
          exact ih i' hi' p' (by omega) (Classical.not_not.1 hp')
    obtain ⟨i, hi, ⟨p0, hp0⟩, hfirst⟩ := hex
    have hi0 : 0 < i := by
      rcases Nat.eq_zero_or_pos i with e | e
      · subst e
        rw [h.first] at hp0
        have := (rightL_iff m).1 hr p0
        have hp0 : nth m p0 = -1 := hp0
        omega
      · exact e
    obtain ⟨u, t, hu, ht, hb, e1⟩ := h.child i hi0 hi
    have hmu := hfirst u hu
    have hlu := (h.marks (j := u) (by omega)).1
    have hx := omFire_plain hn ht hlu hmu
    have hst : StepZ n (knotAt s u).mark t (omFire (tranAt n.trans t) (knotAt s u).mark) := ⟨ht, (below_plain hn ht hlu hmu).1 hb, hx⟩
    obtain ⟨z1, z2⟩ := h.exact (Nat.le_of_lt hi) hfirst u hu
    -- somebody below it, with less somewhere
    have hy : ∃ y ∈ (knotAt s u).mine, belowL y (omFire (tranAt n.trans t) (knotAt s u).mark) = true ∧ ∃ p, p < (omFire (tranAt n.trans t) (knotAt s u).mark).length ∧ moreL (nth (omFire (tranAt n.trans t) (knotAt s u).mark) p) (nth y p) = true := by
      refine Classical.byContradiction fun hno => ?_
      have := raise_still (mine := (knotAt s u).mine) (x := omFire (tranAt n.trans t) (knotAt s u).mark) (fun y hy hyb p hp => by
        cases hmo : moreL (nth (omFire (tranAt n.trans t) (knotAt s u).mark) p) (nth y p)
        · rfl
        · exact absurd ⟨y, hy, hyb, p, hp, hmo⟩ hno) (n.places.toNat + 1)
      rw [e1] at hp0
      have hp0 : nth (raiseN (knotAt s u).mine (omFire (tranAt n.trans t) (knotAt s u).mark) (n.places.toNat + 1)) p0 = -1 := hp0
      rw [this] at hp0
      have := hst.nonneg hn p0
      omega
    generalize omFire (tranAt n.trans t) (knotAt s u).mark = x at *
    obtain ⟨y, hym, hyb, p, hp, hmore⟩ := hy
    have hyz : ReachZ n m y ∧ ReachZ n y x := by
      rcases List.mem_append.1 (show y ∈ (knotAt s u).line ++ [(knotAt s u).mark] from hym) with q | q
      · exact ⟨(z2 y q).1, (z2 y q).2.step hst⟩
      · rw [List.mem_singleton] at q; subst q; exact ⟨z1, ReachZ.here.step hst⟩
    have hyl := hyz.1.length hn hl
    have hxl := hyz.2.length hn hyl
    have hx0 := fun q => hst.nonneg hn q
    have hle : ∀ q, nth y q ≤ nth x q := by
      intro q
      by_cases hq : q < x.length
      · have := (belowL_iff _ _).1 hyb q hq
        rw [moreL_no] at this
        have := hx0 q
        omega
      · rw [nth_past y q (by omega), nth_past x q (by omega)]; omega
    have hlt : nth y p < nth x p := by rw [moreL_yes] at hmore; have := hx0 p; omega
    -- again and again
    have hrep : ∀ c : Nat, ∃ z, ReachZ n m z ∧ (z.length : Int) = n.places ∧ (∀ q, nth y q ≤ nth z q) ∧ nth y p + c ≤ nth z p := by
      intro c
      induction c with
      | zero => exact ⟨y, hyz.1, hyl, fun q => Int.le_refl _, by simp⟩
      | succ c ih =>
        obtain ⟨z, hz, hzl, hz1, hz2⟩ := ih
        have ed : addL y (subL z y) = z := eq_of_at (by rw [add_length, sub_length]; omega) fun q => by rw [add_at, sub_at]; omega
        have hm2 := hyz.2.more hn hyl (d := subL z y) (by rw [sub_length]; omega) (fun q => by rw [sub_at]; have := hz1 q; omega)
        rw [ed] at hm2
        refine ⟨_, hz.trans hm2, by rw [add_length, sub_length]; omega, fun q => ?_, ?_⟩
        · rw [add_at, sub_at]; have := hz1 q; have := hle q; omega
        · rw [add_at, sub_at]; push_cast; omega
    obtain ⟨z, hz, _, _, hz2⟩ := hrep 2000002
    obtain ⟨g, hg1, rfl⟩ := hw.has hz
    have := (fits_net (hw.fits hg1)).2.2
    have := (rightL_iff _).1 this p
    obtain ⟨g2, hg2, e2⟩ := hw.has hyz.1
    have hy2 := (fits_net (hw.fits hg2)).2.2
    rw [e2] at hy2
    have := (rightL_iff _).1 hy2 p
    omega
  have hco : graphOk n m 300 = true := graphOk_300 h.fits
  unfold graphL at main ⊢
  rw [hco] at main ⊢
  simp only [if_true] at main ⊢
  split at main
  · rename_i sp e; exact absurd rfl (main sp)
  · rfl

/-- What is no more than another one, which is no more than a third. -/
theorem moreL_trans {a b c : Int} (h1 : moreL a b = false) (h2 : moreL b c = false) : moreL a c = false := by
  rw [moreL_no] at *; omega
theorem topL_ge (p : Nat) (l : List KnotL) : ∀ x, moreL x (topL p l x) = false ∧ ∀ k ∈ l, moreL (nth k.mark p) (topL p l x) = false := by
  induction l with
  | nil => exact fun x => ⟨by rw [moreL_no]; show x = -1 ∨ x ≠ -1 ∧ x ≤ x; omega, fun k hk => by simp at hk⟩
  | cons k l ih =>
    intro x
    have e : topL p (k :: l) x = topL p l (if moreL (nth k.mark p) x then nth k.mark p else x) := rfl
    rw [e]
    obtain ⟨q1, q2⟩ := ih (if moreL (nth k.mark p) x then nth k.mark p else x)
    cases hk : moreL (nth k.mark p) x
    · rw [hk] at q1 q2
      simp only [Bool.false_eq_true, if_false] at q1 q2 ⊢
      exact ⟨q1, fun k' hk' => by
        rcases List.mem_cons.1 hk' with rfl | h'
        · exact moreL_trans hk q1
        · exact q2 k' h'⟩
    · rw [hk] at q1 q2
      simp only [if_true] at q1 q2 ⊢
      refine ⟨moreL_trans ?_ q1, fun k' hk' => ?_⟩
      · rw [moreL_yes] at hk; rw [moreL_no]; omega
      · rcases List.mem_cons.1 hk' with rfl | h'
        · exact q1
        · exact q2 k' h'

/-- A limit is one. -/
theorem limit_run {n : NetL} {m x : List Int} {p most k : Int} {seq : List Int} (h : limitL n m p most = (k, 0)) (hr : runL n m seq = (x, 0)) : k = -1 ∨ (0 ≤ p ∧ p < x.length ∧ nth x p.toNat ≤ k) := by
  unfold limitL at h
  split at h
  · rename_i h0
    split at h
    · rename_i hp
      simp only [Bool.and_eq_true, decide_eq_true_eq] at hp
      simp only [Prod.mk.injEq, and_true] at h
      obtain ⟨s, el, hT⟩ := treeL_ok (n := n) (m := m) (most := most) (l := (treeL n m most).1) (Prod.ext rfl (by simpa using h0))
      obtain ⟨j, hj, hc⟩ := hT.covers hr
      have hl := (fits_net (run_fits seq hr).2).2.1
      have := (topL_ge p.toNat (treeL n m most).1 0).2 (knotAt s j).knot (by rw [el, knotAt_get hj]; exact List.mem_map.2 ⟨s[j], List.getElem_mem hj, rfl⟩)
      rw [h, moreL_no] at this
      rcases this with q | ⟨q1, q2⟩
      · exact .inl q
      · right
        refine ⟨hp.1, by omega, ?_⟩
        have q1 : nth (knotAt s j).mark p.toNat ≠ -1 := q1
        have q2 : nth (knotAt s j).mark p.toNat ≤ k := q2
        rcases hc.2 p.toNat (by omega) with q3 | q3
        · exact absurd q3 q1
        · omega
    · simp at h
  · rename_i h0
    simp only [Prod.mk.injEq] at h
    rw [h.2] at h0
    simp at h0
theorem limit_err {n : NetL} {m : List Int} {p most : Int} (h : (limitL n m p most).2 ≠ 0) : (limitL n m p most).1 = 0 := by
  unfold limitL at h ⊢
  split
  · rename_i h0
    split
    · rename_i hp; rw [if_pos h0, if_pos hp] at h; simp at h
    · rfl
  · rfl

end Go.Proofs.Ytkdbkoogcndlgaa

/- Plain words for nets that always come to their end; van der Aalst. -/
namespace Go.Proofs.Ytkdbkoogcndlgaa
set_option linter.unusedVariables false
set_option maxRecDepth 4000

structure VerdL where
  kind : Int
  at_ : List Int
  tran : Int

/-- It has the end, and something beside. -/
def ExtraM (E x : List Int) : Prop := coversL x E = true ∧ x ≠ E

/-- What is told of the marks that are found. -/
structure SaysV (n : NetL) (E : List Int) (s : SpaceL) (v : VerdL) : Prop where
  extra : ∀ k, k < s.marks.length → ExtraM E (markAt s.marks k) → (∀ j, j < k → ¬ ExtraM E (markAt s.marks j)) → v = ⟨2, markAt s.marks k, 0⟩
  stuck : (∀ j, j < s.marks.length → ¬ ExtraM E (markAt s.marks j)) → ∀ k, k < s.marks.length → ¬ ReachZ n (markAt s.marks k) E → (∀ j, j < k → ReachZ n (markAt s.marks j) E) → v = ⟨3, markAt s.marks k, 0⟩
  dead : (∀ j, j < s.marks.length → ¬ ExtraM E (markAt s.marks j)) → (∀ j, j < s.marks.length → ReachZ n (markAt s.marks j) E) → ∀ t ts, deadL (toZ s) n.trans.length = t :: ts → v = ⟨4, [], t⟩
  sound : (∀ j, j < s.marks.length → ¬ ExtraM E (markAt s.marks j)) → (∀ j, j < s.marks.length → ReachZ n (markAt s.marks j) E) → deadL (toZ s) n.trans.length = [] → v = ⟨1, [], 0⟩

structure Verd (n : NetL) (i o most : Int) (v : VerdL) (e : Int) : Prop where
  wrong : ¬ ShapeOk n i o → Judged n i o e ∧ v = ⟨0, [], 0⟩
  full : ShapeOk n i o → (graphL n (startL n.places i) most).2 ≠ 0 → e = (graphL n (startL n.places i) most).2 ∧ v = ⟨0, [], 0⟩
  right : ShapeOk n i o → ∀ s, graphL n (startL n.places i) most = (s, 0) → e = 0 ∧ SaysV n (startL n.places o) s v

theorem least_no {Q : Nat → Prop} {N : Nat} (h : ¬ ∀ j, j < N → Q j) : ∃ j, j < N ∧ ¬ Q j ∧ ∀ i, i < j → Q i := by
  induction N with
  | zero => exact absurd (fun j hj => absurd hj (Nat.not_lt_zero _)) h
  | succ N ih =>
    by_cases q : ∀ j, j < N → Q j
    · refine ⟨N, by omega, fun hN => h fun j hj => ?_, q⟩
      by_cases e : j = N
      · subst e; exact hN
      · exact q j (by omega)
    · obtain ⟨j, h1, h2, h3⟩ := ih q
      exact ⟨j, by omega, h2, h3⟩

/-- One of the four is so. -/
theorem SaysV.cases {n : NetL} {E : List Int} {s : SpaceL} {v : VerdL} (h : SaysV n E s v) :
    (∃ k, k < s.marks.length ∧ ExtraM E (markAt s.marks k) ∧ (∀ j, j < k → ¬ ExtraM E (markAt s.marks j)) ∧ v = ⟨2, markAt s.marks k, 0⟩) ∨
    ((∀ j, j < s.marks.length → ¬ ExtraM E (markAt s.marks j)) ∧ ∃ k, k < s.marks.length ∧ ¬ ReachZ n (markAt s.marks k) E ∧ (∀ j, j < k → ReachZ n (markAt s.marks j) E) ∧ v = ⟨3, markAt s.marks k, 0⟩) ∨
    ((∀ j, j < s.marks.length → ¬ ExtraM E (markAt s.marks j)) ∧ (∀ j, j < s.marks.length → ReachZ n (markAt s.marks j) E) ∧ ∃ t ts, deadL (toZ s) n.trans.length = t :: ts ∧ v = ⟨4, [], t⟩) ∨
    ((∀ j, j < s.marks.length → ¬ ExtraM E (markAt s.marks j)) ∧ (∀ j, j < s.marks.length → ReachZ n (markAt s.marks j) E) ∧ deadL (toZ s) n.trans.length = [] ∧ v = ⟨1, [], 0⟩) := by
  by_cases h1 : ∀ j, j < s.marks.length → ¬ ExtraM E (markAt s.marks j)
  · right
    by_cases h2 : ∀ j, j < s.marks.length → ReachZ n (markAt s.marks j) E
    · right
      cases hd : deadL (toZ s) n.trans.length with
      | nil => exact .inr ⟨h1, h2, rfl, h.sound h1 h2 hd⟩
      | cons t ts => exact .inl ⟨h1, h2, t, ts, rfl, h.dead h1 h2 t ts hd⟩
    · obtain ⟨k, q1, q2, q3⟩ := least_no h2
      exact .inl ⟨h1, k, q1, q2, q3, h.stuck h1 k q1 q2 q3⟩
  · left
    obtain ⟨k, q1, q2, q3⟩ := least_no h1
    have q2 := Classical.not_not.1 q2
    exact ⟨k, q1, q2, q3, h.extra k q1 q2 q3⟩

theorem SaysV.unique {n : NetL} {E : List Int} {s : SpaceL} {v u : VerdL} (h : SaysV n E s v) (k : SaysV n E s u) : v = u := by
  rcases h.cases with ⟨j, a1, a2, a3, e⟩ | ⟨a1, j, a2, a3, a4, e⟩ | ⟨a1, a2, t, ts, a3, e⟩ | ⟨a1, a2, a3, e⟩
  · rw [e, k.extra j a1 a2 a3]
  · rw [e, k.stuck a1 j a2 a3 a4]
  · rw [e, k.dead a1 a2 t ts a3]
  · rw [e, k.sound a1 a2 a3]

theorem Verd.unique {n : NetL} {i o most e f : Int} {v u : VerdL} (h : Verd n i o most v e) (k : Verd n i o most u f) : v = u ∧ e = f := by
  by_cases hs : ShapeOk n i o
  · cases hg : graphL n (startL n.places i) most with
    | mk s d =>
      by_cases hd : d = 0
      · subst hd
        obtain ⟨h1, h2⟩ := h.right hs s hg
        obtain ⟨k1, k2⟩ := k.right hs s hg
        exact ⟨h2.unique k2, by rw [h1, k1]⟩
      · obtain ⟨h1, h2⟩ := h.full hs (by rw [hg]; exact hd)
        obtain ⟨k1, k2⟩ := k.full hs (by rw [hg]; exact hd)
        exact ⟨by rw [h2, k2], by rw [h1, k1]⟩
  · obtain ⟨h1, h2⟩ := h.wrong hs
    obtain ⟨k1, k2⟩ := k.wrong hs
    exact ⟨by rw [h2, k2], h1.unique k1⟩

theorem Verd.zero {n : NetL} {i o most : Int} {v : VerdL} (h : Verd n i o most v 0) : ShapeOk n i o ∧ ∃ s, graphL n (startL n.places i) most = (s, 0) ∧ SaysV n (startL n.places o) s v := by
  by_cases hs : ShapeOk n i o
  · cases hg : graphL n (startL n.places i) most with
    | mk s d =>
      by_cases hd : d = 0
      · subst hd; exact ⟨hs, s, rfl, (h.right hs s hg).2⟩
      · have := (h.full hs (by rw [hg]; exact hd)).1
        rw [hg] at this
        exact absurd this.symm hd
  · exact absurd (h.wrong hs).1.zero hs
theorem Verd.none {n : NetL} {i o most e : Int} {v : VerdL} (h : Verd n i o most v e) (he : e ≠ 0) : v = ⟨0, [], 0⟩ := by
  by_cases hs : ShapeOk n i o
  · cases hg : graphL n (startL n.places i) most with
    | mk s d =>
      by_cases hd : d = 0
      · subst hd; exact absurd (h.right hs s hg).1 he
      · exact (h.full hs (by rw [hg]; exact hd)).2
  · exact (h.wrong hs).2

/-- What is sound. -/
theorem SaysV.kind {n : NetL} {E : List Int} {s : SpaceL} {v : VerdL} (h : SaysV n E s v) : v.kind = 1 ↔ (∀ j, j < s.marks.length → ¬ ExtraM E (markAt s.marks j)) ∧ (∀ j, j < s.marks.length → ReachZ n (markAt s.marks j) E) ∧ deadL (toZ s) n.trans.length = [] := by
  constructor
  · intro hk
    rcases h.cases with ⟨j, a1, a2, a3, e⟩ | ⟨a1, j, a2, a3, a4, e⟩ | ⟨a1, a2, t, ts, a3, e⟩ | ⟨a1, a2, a3, e⟩
    · rw [e] at hk; simp at hk
    · rw [e] at hk; simp at hk
    · rw [e] at hk; simp at hk
    · exact ⟨a1, a2, a3⟩
  · rintro ⟨a1, a2, a3⟩
    rw [h.sound a1 a2 a3]

/-! ### what is within some marks is told -/
theorem graph_within {n : NetL} {m : List Int} {most : Nat} {L : List (List Int)} (hm : 1 ≤ most) (hmx : most ≤ 300) (hf : fitsL n m = true) (hL : L.length ≤ most) (hin : ∀ x, ReachZ n m x → x ∈ L) (hr : ∀ x, ReachZ n m x → rightL x = true) : ∃ u, graphL n m most = (u, 0) := by
  have hok : graphOk n m most = true := by simp [graphOk, hf]; omega
  cases hg : graphTo n m most most with
  | some u => exact ⟨u, by rw [graphL, hok]; simp only [if_true, Int.toNat_natCast]; rw [hg]⟩
  | none =>
    exfalso
    obtain ⟨f, j, sp, hj, hF, hff, ht⟩ := graph_broke hm hf _ hg
    have hfit := hF.fits _ (markAt_mem hff)
    have hz := hF.reachZ f hff
    unfold tryT at ht
    split at ht
    · cases ht
    · rename_i h3
      have hcv : coversL (markAt sp.marks f) (tranAt n.trans j).pre = true := by
        cases hc : coversL (markAt sp.marks f) (tranAt n.trans j).pre
        · refine absurd ?_ h3
          unfold fireL
          rw [hfit, Int.toNat_natCast, hc]; simp
        · rfl
      have hst : StepZ n (markAt sp.marks f) j (addL (subL (markAt sp.marks f) (tranAt n.trans j).pre) (tranAt n.trans j).post) := ⟨hj, (coversL_iff _ _).1 hcv, rfl⟩
      have e1 := fire_mk hj hfit hcv (hr _ (hz.step hst))
      rw [e1] at ht
      simp only [BEq.rfl, if_true] at ht
      split at ht
      · cases ht
      · rename_i hfn
        split at ht
        · rename_i hlen
          have hx := findM_none hfn
          have hnd : (sp.marks ++ [addL (subL (markAt sp.marks f) (tranAt n.trans j).pre) (tranAt n.trans j).post]).Nodup := by
            rw [List.nodup_append]
            exact ⟨hF.nodup, by simp, fun a ha b hb e => by rw [List.mem_singleton] at hb; subst hb; subst e; exact hx ha⟩
          have := nodup_sub (l2 := L) hnd (fun x hx => hin x (by
            rcases List.mem_append.1 hx with q | q
            · obtain ⟨i, hi, rfl⟩ := List.getElem_of_mem q
              have := hF.reachZ i hi
              rw [markAt, List.getD_eq_getElem?_getD, List.getElem?_eq_getElem hi] at this
              exact this
            · rw [List.mem_singleton] at q; subst q; exact hz.step hst))
          simp at this
          omega
        · cases ht

/-- What was found is come to, and all that. -/
theorem Whole.iff {n : NetL} {m x : List Int} {s : SpaceL} (h : Whole n m s) : ReachZ n m x ↔ ∃ g, g < s.marks.length ∧ markAt s.marks g = x := by
  refine ⟨h.has, ?_⟩
  rintro ⟨g, hg, rfl⟩
  obtain ⟨_, _, hF, _⟩ := h
  exact hF.reachZ g hg
theorem Whole.right_of {n : NetL} {m x : List Int} {s : SpaceL} (h : Whole n m s) (hr : ReachZ n m x) : fitsL n x = true := by
  obtain ⟨g, hg, rfl⟩ := h.has hr
  exact h.fits hg

/-- Where more comes of less there is no end. -/
theorem no_pump {n : NetL} {m d : List Int} {s : SpaceL} (h : Whole n m s) (hd : (d.length : Int) = n.places) (h0 : ∀ p, 0 ≤ nth d p) (hp : ∃ p, nth d p ≠ 0) (hr : ReachZ n m (addL m d)) : False := by
  have hfm := h.right_of (ReachZ.here (n := n) (a := m))
  obtain ⟨hn, hl, hrm⟩ := fits_net hfm
  have rep : ∀ k : Nat, ∃ x, ReachZ n m x ∧ (x.length : Int) = n.places ∧ ∀ p, nth x p = nth m p + k * nth d p := by
    intro k
    induction k with
    | zero => exact ⟨m, ReachZ.here, hl, fun p => by simp⟩
    | succ k ih =>
      obtain ⟨x, hx, hxl, hxp⟩ := ih
      -- k times d beside
      let kd : List Int := subL x m
      have hkl : (kd.length : Int) = n.places := by show ((subL x m).length : Int) = _; rw [sub_length]; omega
      have hk0 : ∀ p, 0 ≤ nth kd p := fun p => by
        show 0 ≤ nth (subL x m) p
        rw [sub_at, hxp p]
        have := h0 p
        have : 0 ≤ (k : Int) * nth d p := Int.mul_nonneg (by omega) this
        omega
      have q := ReachZ.more hn hr hl hkl hk0
      have e : addL m kd = x := by
        refine eq_of_at (by show (addL m (subL x m)).length = _; rw [add_length, sub_length]; omega) fun p => ?_
        show nth (addL m (subL x m)) p = _
        rw [add_at, sub_at]; omega
      rw [e] at q
      refine ⟨addL (addL m d) kd, hx.trans q, by rw [add_length, add_length]; omega, fun p => ?_⟩
      show nth (addL (addL m d) (subL x m)) p = _
      rw [add_at, add_at, sub_at, hxp p]
      have : ((k + 1 : Nat) : Int) * nth d p = (k : Int) * nth d p + nth d p := by rw [Int.natCast_add, Int.add_mul]; simp
      omega
  obtain ⟨p, hp⟩ := hp
  obtain ⟨x, hx, _, hxp⟩ := rep 1000001
  have h1 := (okTok_nth (fits_net (h.right_of hx)).2.2 p).2
  have h2 := (okTok_nth hrm p).1
  have h3 := h0 p
  have := hxp p
  omega

end Go.Proofs.Ytkdbkoogcndlgaa

/- Van der Aalst: a net is sound just if, closed, it has a bound and all its transitions are live. -/
namespace Go.Proofs.Ytkdbkoogcndlgaa
set_option linter.unusedVariables false
set_option maxRecDepth 4000

theorem stepC {n : NetL} {i o : Int} {x y : List Int} {t : Nat} (h : StepZ (closeL n i o) x t y) : StepZ n x t y ∨ (t = n.trans.length ∧ (∀ p, nth (startL n.places o) p ≤ nth x p) ∧ y = addL (subL x (startL n.places o)) (startL n.places i)) := by
  obtain ⟨ht, hc, e⟩ := h
  rw [close_count] at ht
  by_cases q : t < n.trans.length
  · rw [close_at n i o q] at hc e
    exact .inl ⟨q, hc, e⟩
  · have : t = n.trans.length := by omega
    subst this
    rw [close_last] at hc e
    exact .inr ⟨rfl, hc, e⟩
theorem stepC_of {n : NetL} {i o : Int} {x y : List Int} {t : Nat} (h : StepZ n x t y) : StepZ (closeL n i o) x t y := by
  obtain ⟨ht, hc, e⟩ := h
  exact ⟨by rw [close_count]; omega, by rw [close_at n i o ht]; exact hc, by rw [close_at n i o ht]; exact e⟩
theorem stepC_last {n : NetL} {i o : Int} {x : List Int} (h : ∀ p, nth (startL n.places o) p ≤ nth x p) : StepZ (closeL n i o) x n.trans.length (addL (subL x (startL n.places o)) (startL n.places i)) :=
  ⟨by rw [close_count]; omega, by rw [close_last]; exact h, by rw [close_last]⟩
theorem round_same2 (P i o : Int) : addL (subL (startL P o) (startL P o)) (startL P i) = startL P i := by
  refine eq_of_at ?_ fun j => ?_
  · rw [add_length, sub_length]
    simp only [start_length]
    omega
  · rw [add_at, sub_at]; omega
theorem stepC_end (n : NetL) (i o : Int) : StepZ (closeL n i o) (startL n.places o) n.trans.length (startL n.places i) := by
  have h := stepC_last (n := n) (i := i) (o := o) (x := startL n.places o) fun _ => Int.le_refl _
  rwa [round_same2] at h
theorem reachC {n : NetL} {i o : Int} {a b : List Int} (h : ReachZ n a b) : ReachZ (closeL n i o) a b := by
  induction h using ReachZ.ind with
  | here => exact .here
  | step _ hs ih => exact ih.step (stepC_of hs)

/-- Where nothing has anything beside the end, what covers it is it. -/
theorem only_end {E x : List Int} (h : ¬ ExtraM E x) (hc : ∀ p, nth E p ≤ nth x p) : x = E := by
  by_cases e : x = E
  · exact e
  · exact absurd ⟨(coversL_iff _ _).2 hc, e⟩ h
theorem reachC_in {n : NetL} {i o : Int} {x : List Int} (hx : ∀ x, ReachZ n (startL n.places i) x → ¬ ExtraM (startL n.places o) x) (h : ReachZ (closeL n i o) (startL n.places i) x) : ReachZ n (startL n.places i) x := by
  induction h using ReachZ.ind with
  | here => exact .here
  | step _ hs ih =>
    rcases stepC hs with q | ⟨_, hc, rfl⟩
    · exact ih.step q
    · rw [only_end (hx _ ih) hc, round_same2]
      exact .here
theorem reachC_end {n : NetL} {i o : Int} {x y : List Int} (hx : ∀ x, ReachZ n (startL n.places i) x → ¬ ExtraM (startL n.places o) x) (h0 : ReachZ n (startL n.places i) x) (h : ReachZ (closeL n i o) x y) : ReachZ n x y ∨ ReachZ n x (startL n.places o) := by
  induction h using ReachZ.ind with
  | here => exact .inl .here
  | step _ hs ih =>
    rcases ih with ih | ih
    · rcases stepC hs with q | ⟨_, hc, rfl⟩
      · exact .inl (ih.step q)
      · right
        rw [← only_end (hx _ (h0.trans ih)) hc]
        exact ih
    · exact .inr ih

theorem Whole.reach_comes {n : NetL} {m y : List Int} {s : SpaceL} (h : Whole n m s) {f : Nat} (hf : f < s.marks.length) (hr : ReachZ n (markAt s.marks f) y) : ∃ g : Nat, g < s.marks.length ∧ markAt s.marks g = y ∧ Comes (toZ s) f g := by
  induction hr using ReachZ.ind with
  | here => exact ⟨f, hf, rfl, Comes.here _⟩
  | @step x y t _ hs ih =>
    obtain ⟨g, hg, rfl, hc⟩ := ih
    obtain ⟨ht, hcv, rfl⟩ := hs
    rcases h.fire hg t with q | ⟨j, g2, e, ha, hg2, e2⟩
    · exact absurd q (fire_code (h.fits hg) ht hcv)
    · obtain ⟨j', e3, _, _, _, _, e4⟩ := fire_ok e2
      have : j' = t := by omega
      subst this
      have hz : ((g : Int), (j : Int), (g2 : Int)) ∈ (toZ s).arcs := mem_arcZ.2 ⟨_, ha, rfl⟩
      exact ⟨g2, hg2, e4, Comes.go (a := ((g : Int), (j : Int), (g2 : Int))) hc hz⟩
theorem Whole.comes_reach {n : NetL} {m : List Int} {s : SpaceL} (h : Whole n m s) {f : Nat} (hf : f < s.marks.length) {y : Int} (hc : Comes (toZ s) f y) : ∃ g : Nat, y = g ∧ g < s.marks.length ∧ ReachZ n (markAt s.marks f) (markAt s.marks g) := by
  obtain ⟨j, e, hj, seq, hs⟩ := h.comes_run hf hc
  exact ⟨j, e, hj, run_reachZ seq hs⟩
/-- Who can fire has an arc. -/
theorem Whole.has_arc {n : NetL} {m : List Int} {s : SpaceL} (h : Whole n m s) {f t : Nat} (hf : f < s.marks.length) (ht : t < n.trans.length) (hc : ∀ p, nth (tranAt n.trans t).pre p ≤ nth (markAt s.marks f) p) : ∃ a ∈ (toZ s).arcs, a.2.1 = t ∧ a.1 = f := by
  rcases h.fire hf t with q | ⟨j, g2, e, ha, hg2, e2⟩
  · exact absurd q (fire_code (h.fits hf) ht hc)
  · exact ⟨((f : Int), (j : Int), (g2 : Int)), mem_arcZ.2 ⟨_, ha, rfl⟩, e.symm, rfl⟩
theorem Whole.arc_can {n : NetL} {m : List Int} {s : SpaceL} (h : Whole n m s) {a : Int × Int × Int} (ha : a ∈ (toZ s).arcs) : ∃ f t : Nat, a.1 = f ∧ a.2.1 = t ∧ f < s.marks.length ∧ t < n.trans.length ∧ ∀ p, nth (tranAt n.trans t).pre p ≤ nth (markAt s.marks f) p := by
  obtain ⟨b, hb, rfl⟩ := mem_arcZ.1 ha
  obtain ⟨h1, h2, h3, h4⟩ := h.sound b hb
  obtain ⟨k, e, _, _, hc, _⟩ := fire_ok h4
  have : k = b.tran := by omega
  subst this
  exact ⟨b.frm, b.tran, rfl, rfl, h1, h3, (coversL_iff _ _).1 hc⟩

theorem range_all {N : Nat} {xs : List Int} (hu : xs.Pairwise (· < ·)) (hin : ∀ t ∈ xs, 0 ≤ t ∧ t < N) : xs.length = N ↔ ∀ t : Nat, t < N → (t : Int) ∈ xs := by
  have e : xs = (rangeL N).filter fun t => xs.contains t := by
    refine up_unique hu ((range_sorted N).sublist List.filter_sublist) fun t => ?_
    rw [List.mem_filter, mem_range, List.contains_iff_mem]
    exact ⟨fun h => ⟨hin t h, h⟩, fun h => h.2⟩
  have hl : (rangeL N).length = N := by simp [rangeL]
  constructor
  · intro h t ht
    have : (rangeL N).filter (fun t => xs.contains t) = rangeL N := List.filter_sublist.eq_of_length (by rw [← e, hl]; exact h)
    have hm : (t : Int) ∈ rangeL N := mem_range.2 (by omega)
    rw [← this, List.mem_filter, List.contains_iff_mem] at hm
    exact hm.2
  · intro h
    have : (rangeL N).filter (fun t => xs.contains t) = rangeL N := by
      rw [List.filter_eq_self]
      intro t ht
      rw [List.contains_iff_mem]
      obtain ⟨h1, h2⟩ := mem_range.1 ht
      obtain ⟨k, rfl⟩ := Int.eq_ofNat_of_zero_le h1
      exact h k (by omega)
    rw [e, this, hl]

section
variable {n : NetL} {i o most : Int} {s : SpaceL} {v : VerdL}

theorem mark_len (h : Whole n (startL n.places i) s) {j : Nat} (hj : j < s.marks.length) : ((markAt s.marks j).length : Int) = n.places := (fits_net (h.fits hj)).2.1

/-- What is sound has, closed, as many marks. -/
theorem close_graph (hS : ShapeOk n i o) (hl : n.trans.length < 24) (hg : graphL n (startL n.places i) most = (s, 0)) (hv : SaysV n (startL n.places o) s v) (hk : v.kind = 1) : ∃ u, graphL (closeL n i o) (startL n.places i) 300 = (u, 0) := by
  obtain ⟨h1, h2, h3⟩ := hv.kind.1 hk
  have hW := graphL_whole hg
  obtain ⟨m1, m2, _, _, hF⟩ := graphL_ok hg
  have hx : ∀ x, ReachZ n (startL n.places i) x → ¬ ExtraM (startL n.places o) x := fun x hr => by
    obtain ⟨g, hgl, rfl⟩ := hW.has hr
    exact h1 g hgl
  have hfit : fitsL (closeL n i o) (startL n.places i) = true := by rw [close_fits hS.ok hl]; exact start_fits hS.ok i
  have := graph_within (n := closeL n i o) (m := startL n.places i) (most := 300) (L := s.marks) (by omega) (by omega) hfit (by have := hF.most_le; omega) (fun x hr => by
    obtain ⟨g, hgl, rfl⟩ := hW.has (reachC_in hx hr)
    exact markAt_mem hgl) (fun x hr => (fits_net (hW.right_of (reachC_in hx hr))).2.2)
  exact this

/-- Van der Aalst. -/
theorem close_live {u : SpaceL} {xs : List Int} (hS : ShapeOk n i o) (hl : n.trans.length < 24) (hg : graphL n (startL n.places i) most = (s, 0)) (hv : SaysV n (startL n.places o) s v) (hu : graphL (closeL n i o) (startL n.places i) 300 = (u, 0))
    (hL : IsLive (toZ u) ((n.trans.length + 1 : Nat) : Int) xs) : v.kind = 1 ↔ xs.length = n.trans.length + 1 := by
  have hW := graphL_whole hg
  have hC := graphL_whole hu
  have hok := close_ok hS.ok hl i o
  have hin : ∀ t ∈ xs, 0 ≤ t ∧ t < ((n.trans.length + 1 : Nat) : Int) := fun t ht => by
    obtain ⟨_, q1, q2, _⟩ := (hL.mem t).1 ht
    omega
  rw [range_all hL.up hin, hv.kind]
  constructor
  · rintro ⟨h1, h2, h3⟩ t ht
    have hx : ∀ x, ReachZ n (startL n.places i) x → ¬ ExtraM (startL n.places o) x := fun x hr => by
      obtain ⟨g, hgl, rfl⟩ := hW.has hr
      exact h1 g hgl
    refine (hL.mem t).2 ⟨hC.right, by omega, by omega, fun k hk0 hk => ?_⟩
    obtain ⟨k, rfl⟩ := Int.eq_ofNat_of_zero_le hk0
    have hk : k < u.marks.length := by
      have : (k : Int) < (u.marks.length : Int) := hk
      omega
    have r0 : ReachZ n (startL n.places i) (markAt u.marks k) := reachC_in hx (hC.iff.2 ⟨k, hk, rfl⟩)
    obtain ⟨g, hgl, eg⟩ := hW.has r0
    have r1 : ReachZ (closeL n i o) (markAt u.marks k) (startL n.places o) := by
      have := h2 g hgl
      rw [eg] at this
      exact reachC this
    by_cases hT : t = n.trans.length
    · obtain ⟨e, he, ee, hc⟩ := hC.reach_comes hk r1
      obtain ⟨a, ha, a1, a2⟩ := hC.has_arc (t := n.trans.length) he (by rw [close_count]; omega) (fun p => by rw [close_last, ee]; exact Int.le_refl _)
      exact ⟨a, ha, by rw [a1, hT], by rw [a2]; exact hc⟩
    · have hnd : ¬ (t : Int) ∈ deadL (toZ s) n.trans.length := by rw [h3]; simp
      have : ∃ a ∈ (toZ s).arcs, a.2.1 = (t : Int) := by
        refine Classical.byContradiction fun q => hnd (mem_dead.2 ⟨by omega, by omega, fun a ha e => q ⟨a, ha, e⟩⟩)
      obtain ⟨a, ha, ea⟩ := this
      obtain ⟨f, t', e1, e2, hf, ht', hcv⟩ := hW.arc_can ha
      have : t' = t := by omega
      subst this
      have r2 : ReachZ (closeL n i o) (markAt u.marks k) (markAt s.marks f) := (r1.step (stepC_end n i o)).trans (reachC (hW.iff.2 ⟨f, hf, rfl⟩))
      obtain ⟨e, he, ee, hc⟩ := hC.reach_comes hk r2
      obtain ⟨b, hb, b1, b2⟩ := hC.has_arc (t := t') he (by rw [close_count]; omega) (fun p => by rw [close_at n i o ht', ee]; exact hcv p)
      exact ⟨b, hb, b1, by rw [b2]; exact hc⟩
  · intro hall
    have live : ∀ t : Nat, t < n.trans.length + 1 → ∀ k : Nat, k < u.marks.length → ∃ (f : Nat), f < u.marks.length ∧ ReachZ (closeL n i o) (markAt u.marks k) (markAt u.marks f) ∧ ∀ p, nth (tranAt (closeL n i o).trans t).pre p ≤ nth (markAt u.marks f) p := by
      intro t ht k hk
      obtain ⟨_, _, _, q⟩ := (hL.mem t).1 (hall t ht)
      obtain ⟨a, ha, e1, hc⟩ := q k (by omega) (by show (k : Int) < (u.marks.length : Int); omega)
      obtain ⟨f, t', e2, e3, hf, ht', hcv⟩ := hC.arc_can ha
      have : t' = t := by omega
      subst this
      obtain ⟨g, eg, hgl, hr⟩ := hC.comes_reach hk hc
      have : g = f := by omega
      subst this
      exact ⟨g, hgl, hr, hcv⟩
    have h1 : ∀ x, ReachZ n (startL n.places i) x → ¬ ExtraM (startL n.places o) x := by
      intro x hr hx
      obtain ⟨hcv, hne⟩ := hx
      have hcv := (coversL_iff _ _).1 hcv
      have hxl : (x.length : Int) = n.places := hr.length hS.ok (start_len hS.ok i)
      have hel := start_len hS.ok o
      have hsl := start_len hS.ok i
      have r : ReachZ (closeL n i o) (startL n.places i) (addL (startL n.places i) (subL x (startL n.places o))) := by
        have := (reachC (i := i) (o := o) hr).step (stepC_last hcv)
        have e : addL (subL x (startL n.places o)) (startL n.places i) = addL (startL n.places i) (subL x (startL n.places o)) := by
          refine eq_of_at (by rw [add_length, add_length]; omega) fun p => ?_
          rw [add_at, add_at]; omega
        rwa [e] at this
      refine no_pump hC (by show ((subL x (startL n.places o)).length : Int) = n.places; rw [sub_length]; omega) (fun p => by rw [sub_at]; have := hcv p; omega) ?_ r
      refine Classical.byContradiction fun q => hne (eq_of_at (by omega) fun p => ?_)
      have : nth (subL x (startL n.places o)) p = 0 := Classical.byContradiction fun z => q ⟨p, z⟩
      rw [sub_at] at this
      omega
    have inN : ∀ f, f < u.marks.length → ReachZ n (startL n.places i) (markAt u.marks f) := fun f hf => reachC_in h1 (hC.iff.2 ⟨f, hf, rfl⟩)
    refine ⟨fun j hj => h1 _ (hW.iff.2 ⟨j, hj, rfl⟩), fun j hj => ?_, ?_⟩
    · have r0 : ReachZ n (startL n.places i) (markAt s.marks j) := hW.iff.2 ⟨j, hj, rfl⟩
      obtain ⟨k, hk, ek⟩ := hC.has (reachC r0)
      obtain ⟨f, hf, hr, hcv⟩ := live n.trans.length (by omega) k hk
      rw [close_last] at hcv
      have e := only_end (h1 _ (inN f hf)) hcv
      rw [ek, e] at hr
      rcases reachC_end h1 r0 hr with q | q
      · exact q
      · exact q
    · rw [List.eq_nil_iff_forall_not_mem]
      intro t ht
      obtain ⟨q1, q2, q3⟩ := mem_dead.1 ht
      obtain ⟨t, rfl⟩ := Int.eq_ofNat_of_zero_le q1
      have htT : t < n.trans.length := by omega
      obtain ⟨f, hf, hr, hcv⟩ := live t (by omega) 0 hC.here.1
      rw [close_at n i o htT] at hcv
      obtain ⟨g, hgl, eg⟩ := hW.has (inN f hf)
      rw [← eg] at hcv
      obtain ⟨a, ha, a1, _⟩ := hW.has_arc hgl htT hcv
      exact q3 a ha a1

end

end Go.Proofs.Ytkdbkoogcndlgaa

/- Which verdict it is, plainly. -/
namespace Go.Proofs.Ytkdbkoogcndlgaa
set_option linter.unusedVariables false
set_option maxRecDepth 4000

theorem shape_two {n : NetL} {i o : Int} (h : ShapeOk n i o) : 2 ≤ n.places := by
  have h1 := h.i0
  have h2 := h.o0
  have h3 := h.i1
  have h4 := h.o1
  have h5 := h.ne
  omega
theorem says_extra {n : NetL} {E : List Int} {s : SpaceL} {k : Nat} (hk : k < s.marks.length) (h : ExtraM E (markAt s.marks k)) (h0 : ∀ j, j < k → ¬ ExtraM E (markAt s.marks j)) : SaysV n E s ⟨2, markAt s.marks k, 0⟩ := by
  refine ⟨fun j hj hx hj0 => ?_, fun q => absurd h (q k hk), fun q => absurd h (q k hk), fun q => absurd h (q k hk)⟩
  rcases Nat.lt_trichotomy j k with e | e | e
  · exact absurd hx (h0 j e)
  · rw [e]
  · exact absurd h (hj0 k e)
theorem says_stuck {n : NetL} {E : List Int} {s : SpaceL} {k : Nat} (hx : ∀ j, j < s.marks.length → ¬ ExtraM E (markAt s.marks j)) (hk : k < s.marks.length) (h : ¬ ReachZ n (markAt s.marks k) E) (h0 : ∀ j, j < k → ReachZ n (markAt s.marks j) E) : SaysV n E s ⟨3, markAt s.marks k, 0⟩ := by
  refine ⟨fun j hj q _ => absurd q (hx j hj), fun _ j hj hr hj0 => ?_, fun _ q => absurd (q k hk) h, fun _ q => absurd (q k hk) h⟩
  rcases Nat.lt_trichotomy j k with e | e | e
  · exact absurd (h0 j e) hr
  · rw [e]
  · exact absurd (hj0 k e) h
theorem says_dead {n : NetL} {E : List Int} {s : SpaceL} {t : Int} {ts : List Int} (hx : ∀ j, j < s.marks.length → ¬ ExtraM E (markAt s.marks j)) (hr : ∀ j, j < s.marks.length → ReachZ n (markAt s.marks j) E) (hd : deadL (toZ s) n.trans.length = t :: ts) : SaysV n E s ⟨4, [], t⟩ := by
  refine ⟨fun j hj q _ => absurd q (hx j hj), fun _ j hj q _ => absurd (hr j hj) q, fun _ _ t' ts' e => ?_, fun _ _ e => ?_⟩
  · rw [hd] at e; injection e with e1 _; rw [e1]
  · rw [hd] at e; cases e
theorem says_sound {n : NetL} {E : List Int} {s : SpaceL} (hx : ∀ j, j < s.marks.length → ¬ ExtraM E (markAt s.marks j)) (hr : ∀ j, j < s.marks.length → ReachZ n (markAt s.marks j) E) (hd : deadL (toZ s) n.trans.length = []) : SaysV n E s ⟨1, [], 0⟩ := by
  refine ⟨fun j hj q _ => absurd q (hx j hj), fun _ j hj q _ => absurd (hr j hj) q, fun _ _ t' ts' e => ?_, fun _ _ _ => rfl⟩
  rw [hd] at e; cases e
theorem verd_right {n : NetL} {i o most : Int} {s : SpaceL} {x : VerdL} (hS : ShapeOk n i o) (hg : graphL n (startL n.places i) most = (s, 0)) (h : SaysV n (startL n.places o) s x) : Verd n i o most x 0 := by
  refine ⟨fun q => absurd hS q, fun _ q => ?_, fun _ u hu => ?_⟩
  · rw [hg] at q; exact absurd rfl q
  · rw [hg] at hu; injection hu with e _; subst e; exact ⟨rfl, h⟩
theorem verd_full {n : NetL} {i o most : Int} (hS : ShapeOk n i o) (hg : (graphL n (startL n.places i) most).2 ≠ 0) : Verd n i o most ⟨0, [], 0⟩ (graphL n (startL n.places i) most).2 := by
  refine ⟨fun q => absurd hS q, fun _ _ => ⟨rfl, rfl⟩, fun _ u hu => ?_⟩
  rw [hu] at hg; exact absurd rfl hg

end Go.Proofs.Ytkdbkoogcndlgaa
