/- Plain words for blocks: which are right, and which words they have. -/
import Derived.Test.YtjfcfnaeinhmcaaDoorBase
namespace Go.Proofs.YtjfcfnaeinhmcaaDoor
set_option linter.unusedVariables false
set_option maxRecDepth 4000

structure BlockL where
  kind : Int
  label : Int
  kids : List BlockL

/-! ### what is wrong -/
/-- What is wrong with a block itself, that is the had-th one. -/
def badB (b : BlockL) (had : Nat) : Int :=
  if 40 < had then 4 else if b.kind < 1 ∨ 6 < b.kind then 5 else if b.kind = 2 ∧ (b.label < 1 ∨ 26 < b.label) then 2
  else if (b.kind ≤ 2 ∧ b.kids.length ≠ 0) ∨ (3 ≤ b.kind ∧ b.kids.length = 0) ∨ (b.kind = 6 ∧ b.kids.length ≠ 2) then 1 else 0
def jwAll (g : BlockL → Nat → Nat × Int) : List BlockL → Nat → Nat × Int
  | [], had => (had, 0)
  | k :: ks, had => if (g k had).2 = 0 then jwAll g ks (g k had).1 else g k had
def jw : Nat → BlockL → Nat → Nat × Int
  | 0, _, had => (had, 0)
  | f + 1, b, had => if badB b (had + 1) = 0 then jwAll (jw f) b.kids (had + 1) else (had + 1, badB b (had + 1))
def wrongB (b : BlockL) : Int := (jw 41 b 0).2

/-- A block itself is right. -/
def formB (b : BlockL) : Prop := 1 ≤ b.kind ∧ b.kind ≤ 6 ∧ (b.kind = 2 → 1 ≤ b.label ∧ b.label ≤ 26) ∧ (b.kind ≤ 2 → b.kids.length = 0) ∧ (3 ≤ b.kind → b.kids.length ≠ 0) ∧ (b.kind = 6 → b.kids.length = 2)
theorem badB_zero {b : BlockL} {had : Nat} : badB b had = 0 ↔ had ≤ 40 ∧ formB b := by
  unfold badB formB
  split
  · constructor
    · intro h; cases h
    · intro h; omega
  · split
    · constructor
      · intro h; cases h
      · intro h; omega
    · split
      · constructor
        · intro h; cases h
        · intro h; omega
      · split
        · constructor
          · intro h; cases h
          · intro h; omega
        · constructor
          · intro _; omega
          · intro _; rfl
/-- All of it is, as deep as f. -/
def okB : Nat → BlockL → Prop
  | 0, _ => True
  | f + 1, b => formB b ∧ ∀ k ∈ b.kids, okB f k
def sumB (g : BlockL → Nat) : List BlockL → Nat
  | [] => 0
  | k :: ks => g k + sumB g ks
/-- How many there are, as deep as f. -/
def cntB : Nat → BlockL → Nat
  | 0, _ => 0
  | f + 1, b => 1 + sumB (cntB f) b.kids
/-- It is no deeper than f. -/
def Fit : Nat → BlockL → Prop
  | 0, _ => False
  | f + 1, b => ∀ k ∈ b.kids, Fit f k

theorem sumB_mem {g : BlockL → Nat} {l : List BlockL} {k : BlockL} (h : k ∈ l) : g k ≤ sumB g l := by
  induction l with
  | nil => cases h
  | cons x t ih =>
    simp only [sumB]
    rcases List.mem_cons.1 h with e | e
    · subst e; omega
    · have := ih e; omega
theorem sumB_congr {g h : BlockL → Nat} {l : List BlockL} (e : ∀ k ∈ l, g k = h k) : sumB g l = sumB h l := by
  induction l with
  | nil => rfl
  | cons x t ih => simp only [sumB]; rw [e x (List.mem_cons_self ..), ih fun k hk => e k (List.mem_cons_of_mem _ hk)]
theorem fit_cnt : ∀ {f : Nat} {b : BlockL}, cntB f b < f → Fit f b
  | 0, b, h => absurd h (Nat.not_lt_zero _)
  | f + 1, b, h => fun k hk => fit_cnt (by have := sumB_mem (g := cntB f) hk; simp only [cntB] at h; omega)
theorem Fit.more : ∀ {f : Nat} {b : BlockL}, Fit f b → Fit (f + 1) b
  | 0, _, h => h.elim
  | f + 1, b, h => fun k hk => (h k hk).more
theorem Fit.mono {f g : Nat} {b : BlockL} (h : Fit f b) (hg : f ≤ g) : Fit g b := by
  induction hg with
  | refl => exact h
  | step _ ih => exact ih.more
theorem cnt_fit : ∀ {f g : Nat} {b : BlockL}, Fit f b → Fit g b → cntB f b = cntB g b
  | 0, _, _, h, _ => h.elim
  | _ + 1, 0, _, _, h => h.elim
  | f + 1, g + 1, b, h, k => by simp only [cntB]; rw [sumB_congr fun x hx => cnt_fit (h x hx) (k x hx)]
theorem ok_fit : ∀ {f g : Nat} {b : BlockL}, Fit f b → Fit g b → (okB f b ↔ okB g b)
  | 0, _, _, h, _ => h.elim
  | _ + 1, 0, _, _, h => h.elim
  | f + 1, g + 1, b, h, k => by
    simp only [okB]
    constructor
    · rintro ⟨a, q⟩; exact ⟨a, fun x hx => (ok_fit (h x hx) (k x hx)).1 (q x hx)⟩
    · rintro ⟨a, q⟩; exact ⟨a, fun x hx => (ok_fit (h x hx) (k x hx)).2 (q x hx)⟩

theorem jwAll_zero {g : BlockL → Nat → Nat × Int} {ok : BlockL → Prop} {cnt : BlockL → Nat} : ∀ {l : List BlockL} {had : Nat}, had ≤ 40 →
    (∀ k ∈ l, ∀ h, had ≤ h → h ≤ 40 → ((g k h).2 = 0 ↔ ok k ∧ h + cnt k ≤ 40) ∧ ((g k h).2 = 0 → (g k h).1 = h + cnt k)) →
    ((jwAll g l had).2 = 0 ↔ (∀ k ∈ l, ok k) ∧ had + sumB cnt l ≤ 40) ∧ ((jwAll g l had).2 = 0 → (jwAll g l had).1 = had + sumB cnt l)
  | [], had, h0, _ => by simp [jwAll, sumB, h0]
  | k :: ks, had, h0, hk => by
    obtain ⟨h1, h2⟩ := hk k (List.mem_cons_self ..) had (Nat.le_refl _) h0
    simp only [jwAll, sumB]
    by_cases e : (g k had).2 = 0
    · rw [if_pos e]
      have e1 := h2 e
      obtain ⟨q1, q2⟩ := h1.1 e
      obtain ⟨a1, a2⟩ := jwAll_zero (g := g) (ok := ok) (cnt := cnt) (l := ks) (had := (g k had).1) (by omega) (fun x hx h hh hh2 => hk x (List.mem_cons_of_mem _ hx) h (by omega) hh2)
      rw [e1] at a1 a2 ⊢
      constructor
      · rw [a1]
        constructor
        · rintro ⟨b1, b2⟩
          refine ⟨fun x hx => ?_, by omega⟩
          rcases List.mem_cons.1 hx with r | r
          · subst r; exact q1
          · exact b1 x r
        · rintro ⟨b1, b2⟩; exact ⟨fun x hx => b1 x (List.mem_cons_of_mem _ hx), by omega⟩
      · intro q; rw [a2 q]; omega
    · rw [if_neg e]
      constructor
      · constructor
        · intro q; exact absurd q e
        · rintro ⟨b1, b2⟩; exact absurd (h1.2 ⟨b1 k (List.mem_cons_self ..), by omega⟩) e
      · intro q; exact absurd q e
theorem jw_zero : ∀ {f : Nat} {b : BlockL} {had : Nat}, had ≤ 40 → 41 ≤ f + had → ((jw f b had).2 = 0 ↔ okB f b ∧ had + cntB f b ≤ 40) ∧ ((jw f b had).2 = 0 → (jw f b had).1 = had + cntB f b)
  | 0, b, had, h0, h1 => by omega
  | f + 1, b, had, h0, h1 => by
    simp only [jw]
    by_cases e : badB b (had + 1) = 0
    · rw [if_pos e]
      obtain ⟨q1, q2⟩ := badB_zero.1 e
      obtain ⟨a1, a2⟩ := jwAll_zero (g := jw f) (ok := okB f) (cnt := cntB f) (l := b.kids) (had := had + 1) q1 (fun k _ h hh hh2 => jw_zero hh2 (by omega))
      constructor
      · rw [a1]
        simp only [okB, cntB]
        constructor
        · rintro ⟨b1, b2⟩; exact ⟨⟨q2, b1⟩, by omega⟩
        · rintro ⟨⟨_, b1⟩, b2⟩; exact ⟨b1, by omega⟩
      · intro q; rw [a2 q]; simp only [cntB]; omega
    · rw [if_neg e]
      constructor
      · constructor
        · intro q; exact absurd q e
        · rintro ⟨b1, b2⟩
          simp only [okB, cntB] at b1 b2
          exact absurd (badB_zero.2 ⟨by omega, b1.1⟩) e
      · intro q; exact absurd q e
/-- Right blocks. -/
def RightB (b : BlockL) : Prop := okB 41 b ∧ cntB 41 b ≤ 40
theorem wrong_zero {b : BlockL} : wrongB b = 0 ↔ RightB b := by
  have := (jw_zero (f := 41) (b := b) (had := 0) (by omega) (by omega)).1
  unfold wrongB RightB
  rw [this, Nat.zero_add]
theorem RightB.fit {b : BlockL} (h : RightB b) : Fit 41 b := fit_cnt (by have := h.2; omega)
theorem RightB.form {b : BlockL} (h : RightB b) : formB b := h.1.1
theorem RightB.kid {b k : BlockL} (h : RightB b) (hk : k ∈ b.kids) : RightB k := by
  have hf := h.fit k hk
  have h1 : okB 40 k := h.1.2 k hk
  have h2 : cntB 40 k ≤ 39 := by have h3 := h.2; have h4 := sumB_mem (g := cntB 40) hk; have e : cntB 41 b = 1 + sumB (cntB 40) b.kids := rfl; omega
  have e : cntB 40 k = cntB 41 k := cnt_fit hf hf.more
  exact ⟨(ok_fit hf hf.more).1 h1, e ▸ Nat.le_trans h2 (by decide)⟩

/-! ### words -/
abbrev Words := List Int → Prop
def SeqW : List Words → Words
  | [], w => w = []
  | p :: ps, w => ∃ x y, w = x ++ y ∧ p x ∧ SeqW ps y
/-- w has the letters of x and of y, each one's in their order. -/
def Mixed (x y : List Int) : List Int → Prop
  | [] => x = [] ∧ y = []
  | c :: w => (∃ x', x = c :: x' ∧ Mixed x' y w) ∨ (∃ y', y = c :: y' ∧ Mixed x y' w)
def MixW : List Words → Words
  | [], w => w = []
  | p :: ps, w => ∃ x y, Mixed x y w ∧ p x ∧ MixW ps y
def LoopN (p q : Words) : Nat → Words
  | 0, w => p w
  | n + 1, w => ∃ x y z, w = x ++ (y ++ z) ∧ p x ∧ q y ∧ LoopN p q n z
def LoopW (p q : Words) : Words := fun w => ∃ n, LoopN p q n w
def anyW (l : List Words) : Words := fun w => ∃ p ∈ l, p w
def kidW (l : List Words) (j : Nat) : Words := l.getD j fun _ => False
/-- The words of a block, by those of its kids. -/
def wordsK (kind label : Int) (l : List Words) : Words := fun w =>
  if kind = 1 then w = [] else if kind = 2 then w = [label] else if kind = 3 then SeqW l w else if kind = 4 then anyW l w else if kind = 5 then MixW l w else LoopW (kidW l 0) (kidW l 1) w
def lang : Nat → BlockL → Words
  | 0, _ => fun _ => False
  | f + 1, b => wordsK b.kind b.label (b.kids.map (lang f))
def HasB (b : BlockL) (w : List Int) : Prop := RightB b ∧ lang 41 b w

theorem lang_fit : ∀ {f g : Nat} {b : BlockL}, Fit f b → Fit g b → lang f b = lang g b
  | 0, _, _, h, _ => h.elim
  | _ + 1, 0, _, _, h => h.elim
  | f + 1, g + 1, b, h, k => by
    simp only [lang]
    rw [show b.kids.map (lang f) = b.kids.map (lang g) from List.map_congr_left fun x hx => lang_fit (h x hx) (k x hx)]
/-- The words of a right block, by its kids' own. -/
theorem RightB.lang {b : BlockL} (h : RightB b) : lang 41 b = wordsK b.kind b.label (b.kids.map (Go.Proofs.YtjfcfnaeinhmcaaDoor.lang 41)) := by
  have hf := h.fit
  rw [lang_fit hf hf.more]
  rfl

end Go.Proofs.YtjfcfnaeinhmcaaDoor
