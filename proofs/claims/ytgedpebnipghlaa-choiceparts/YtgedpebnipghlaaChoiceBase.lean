/- Plain words for choices: who shares a place with whom, who is led to whom, and the parts that this makes. -/
import Derived.Test.YtgedpebnipghlaaNets
import Derived.Test.YtgedpebnipghlaaRanges
import Derived.Test.YtgedpebnipghlaaFlags
namespace Go.Proofs.Ytgedpebnipghlaa
set_option linter.unusedVariables false
set_option maxRecDepth 4000

/-- Both take from one place. -/
def Shares (n : NetL) (i j : Nat) : Prop := ∃ p, 0 < nth (tranAt n.trans i).pre p ∧ 0 < nth (tranAt n.trans j).pre p
theorem Shares.symm {n : NetL} {i j : Nat} (h : Shares n i j) : Shares n j i := by obtain ⟨p, h1, h2⟩ := h; exact ⟨p, h2, h1⟩

/-- The net is right, and who shares a place shares all. -/
def FreeN (n : NetL) : Prop := netOk n = true ∧ ∀ i j, i < n.trans.length → j < n.trans.length → Shares n i j → (tranAt n.trans i).pre = (tranAt n.trans j).pre

/-- From one to the next, as often as it takes. -/
def Led (n : NetL) (a b : Nat) : Prop := ∀ Q : Nat → Prop, Q a → (∀ x y, x < n.trans.length → y < n.trans.length → Q x → Shares n x y → Q y) → Q b
theorem Led.here (n : NetL) (a : Nat) : Led n a a := fun _ h _ => h
theorem Led.step {n : NetL} {a b c : Nat} (h : Led n a b) (hb : b < n.trans.length) (hc : c < n.trans.length) (hs : Shares n b c) : Led n a c := fun Q h1 h2 => h2 b c hb hc (h Q h1 h2) hs
theorem Led.trans {n : NetL} {a b c : Nat} (h : Led n a b) (k : Led n b c) : Led n a c := k (fun x => Led n a x) h fun x y hx hy h1 hs => h1.step hx hy hs
theorem Led.symm {n : NetL} {a b : Nat} (h : Led n a b) : Led n b a := h (fun x => Led n x a) (Led.here n a) fun x y hx hy h1 hs => ((Led.here n y).step hy hx hs.symm).trans h1

theorem led_pre {n : NetL} (hf : FreeN n) {a b : Nat} (h : Led n a b) : (tranAt n.trans a).pre = (tranAt n.trans b).pre :=
  h (fun x => (tranAt n.trans a).pre = (tranAt n.trans x).pre) rfl fun x y hx hy h1 hs => h1.trans (hf.2 x y hx hy hs)

/-- In a number of steps. -/
def StepsN (n : NetL) : Nat → Nat → Nat → Prop
  | 0, a, b => a = b
  | k + 1, a, b => ∃ c, c < n.trans.length ∧ Shares n a c ∧ StepsN n k c b
theorem stepsN_snoc {n : NetL} {c d : Nat} (hd : d < n.trans.length) (hs : Shares n c d) : ∀ {k a}, StepsN n k a c → StepsN n (k + 1) a d
  | 0, a, h => ⟨d, hd, by rw [show a = c from h]; exact hs, rfl⟩
  | k + 1, a, h => by obtain ⟨x, hx, h1, h2⟩ := h; exact ⟨x, hx, h1, stepsN_snoc hd hs h2⟩
theorem led_stepsN {n : NetL} {a b : Nat} (h : Led n a b) : ∃ k, StepsN n k a b :=
  h (fun x => ∃ k, StepsN n k a x) ⟨0, rfl⟩ fun x y hx hy ⟨k, h1⟩ hs => ⟨k + 1, stepsN_snoc hy hs h1⟩

theorem cntF_le_of {f g : Nat → Bool} : ∀ (n : Nat), (∀ j, f j = true → g j = true) → cntF g n ≤ cntF f n
  | 0, _ => Nat.le_refl _
  | n + 1, h => by
    have := cntF_le_of n h
    simp only [cntF]
    cases hf : f n with
    | true => rw [h n hf]; simpa using this
    | false => cases g n <;> simp <;> omega
theorem cntF_lt_of {f g : Nat → Bool} {y : Nat} (h : ∀ j, f j = true → g j = true) (hf : f y = false) (hg : g y = true) : ∀ (n : Nat), y < n → cntF g n < cntF f n
  | 0, hy => absurd hy (Nat.not_lt_zero _)
  | n + 1, hy => by
    simp only [cntF]
    by_cases e : y = n
    · subst e
      have := cntF_le_of (f := f) (g := g) y h
      rw [hf, hg]; simp; omega
    · have := cntF_lt_of h hf hg n (by omega)
      cases hfn : f n with
      | true => rw [h n hfn]; simpa using this
      | false => cases g n <;> simp <;> omega

/-- A test that tells who is no further than so many steps. -/
def NearB (n : NetL) (b : Nat) (f : Nat → Nat → Bool) : Prop := ∀ k x, f k x = true ↔ ∃ j, j ≤ k ∧ StepsN n j x b
theorem near_some (n : NetL) (b : Nat) : ∃ f, NearB n b f := by
  classical
  exact ⟨fun k x => decide (∃ j, j ≤ k ∧ StepsN n j x b), fun k x => decide_eq_true_iff⟩

theorem near_new {n : NetL} {b k : Nat} {f : Nat → Nat → Bool} (hf : NearB n b f) : ∀ {m x : Nat}, x < n.trans.length → StepsN n m x b → f k x = false → ∃ y, y < n.trans.length ∧ f (k + 1) y = true ∧ f k y = false
  | 0, x, hx, h, hn => by
    have : f k x = true := (hf _ _).2 ⟨0, Nat.zero_le _, h⟩
    rw [hn] at this; cases this
  | m + 1, x, hx, h, hn => by
    obtain ⟨c, hc, hs, h2⟩ := h
    cases hk : f k c with
    | true =>
      obtain ⟨j, hj, h3⟩ := (hf _ _).1 hk
      exact ⟨x, hx, (hf _ _).2 ⟨j + 1, by omega, c, hc, hs, h3⟩, hn⟩
    | false => exact near_new hf hc h2 hk

theorem near_count {n : NetL} {b : Nat} {f : Nat → Nat → Bool} (hf : NearB n b f) (hb : b < n.trans.length) : ∀ (k : Nat) {m x : Nat}, x < n.trans.length → StepsN n m x b → f k x = false → cntF (f k) n.trans.length + k + 1 ≤ n.trans.length
  | 0, m, x, hx, h, hn => by
    have h0 : f 0 b = true := (hf _ _).2 ⟨0, Nat.le_refl _, rfl⟩
    have := cntF_lt_of (f := fun _ => false) (g := f 0) (y := b) (fun _ h => by cases h) rfl h0 n.trans.length hb
    have := cntF_le (fun _ => false) n.trans.length
    omega
  | k + 1, m, x, hx, h, hn => by
    have hk : f k x = false := by
      cases hk : f k x with
      | false => rfl
      | true =>
        obtain ⟨j, hj, h3⟩ := (hf _ _).1 hk
        rw [(hf _ _).2 ⟨j, by omega, h3⟩] at hn
        cases hn
    obtain ⟨y, hy, h1, h2⟩ := near_new hf hx h hk
    have := cntF_lt_of (f := f k) (g := f (k + 1)) (y := y) (fun j hj => by obtain ⟨i, hi, h3⟩ := (hf _ _).1 hj; exact (hf _ _).2 ⟨i, by omega, h3⟩) h2 h1 n.trans.length hy
    have := near_count hf hb k hx h hk
    omega

/-- No more steps than there are transitions. -/
theorem led_short {n : NetL} {a b : Nat} (ha : a < n.trans.length) (hb : b < n.trans.length) (h : Led n a b) : ∃ k, k ≤ n.trans.length ∧ StepsN n k a b := by
  obtain ⟨m, hm⟩ := led_stepsN h
  obtain ⟨f, hf⟩ := near_some n b
  cases hk : f n.trans.length a with
  | true => exact (hf _ _).1 hk
  | false => have := near_count hf hb _ ha hm hk; omega

/-- All transitions, in parts. -/
structure PartsOk (n : NetL) (ls : List (List Int)) : Prop where
  bad : netOk n = false → ls = []
  ne : ∀ l ∈ ls, l ≠ []
  up : ∀ l ∈ ls, l.Pairwise (· < ·)
  first : ls.Pairwise (fun a b => a.headD 0 < b.headD 0)
  mem : ∀ l ∈ ls, ∀ t ∈ l, 0 ≤ t ∧ t.toNat < n.trans.length ∧ ∀ u : Nat, u < n.trans.length → ((u : Int) ∈ l ↔ Led n t.toNat u)
  all : netOk n = true → ∀ k, k < n.trans.length → ∃ l ∈ ls, (k : Int) ∈ l

theorem key_unique {α : Type} (f : α → Int) : ∀ {xs ys : List α}, xs.Pairwise (fun a b => f a < f b) → ys.Pairwise (fun a b => f a < f b) → (∀ t, t ∈ xs ↔ t ∈ ys) → xs = ys
  | [], [], _, _, _ => rfl
  | [], y :: ys, _, _, h => absurd ((h y).2 (by simp)) (by simp)
  | x :: xs, [], _, _, h => absurd ((h x).1 (by simp)) (by simp)
  | x :: xs, y :: ys, hx, hy, h => by
    have hx1 := List.pairwise_cons.1 hx
    have hy1 := List.pairwise_cons.1 hy
    have e : x = y := by
      rcases List.mem_cons.1 ((h x).1 (by simp)) with e | e
      · exact e
      · rcases List.mem_cons.1 ((h y).2 (by simp)) with e2 | e2
        · exact e2.symm
        · have := hx1.1 y e2; have := hy1.1 x e; omega
    subst e
    rw [key_unique f hx1.2 hy1.2 fun t => ?_]
    constructor
    · intro ht
      rcases List.mem_cons.1 ((h t).1 (List.mem_cons_of_mem _ ht)) with e | e
      · subst e; have := hx1.1 t ht; omega
      · exact e
    · intro ht
      rcases List.mem_cons.1 ((h t).2 (List.mem_cons_of_mem _ ht)) with e | e
      · subst e; have := hy1.1 t ht; omega
      · exact e

theorem PartsOk.sub {n : NetL} {ls ks : List (List Int)} (h : PartsOk n ls) (k : PartsOk n ks) (hn : netOk n = true) {l : List Int} (hl : l ∈ ls) : l ∈ ks := by
  obtain ⟨t, r, e⟩ := List.exists_cons_of_ne_nil (h.ne l hl)
  obtain ⟨h0, h1, h2⟩ := h.mem l hl t (by rw [e]; simp)
  obtain ⟨m, hm, ht⟩ := k.all hn t.toNat h1
  rw [Int.toNat_of_nonneg h0] at ht
  obtain ⟨_, _, k2⟩ := k.mem m hm t ht
  have : l = m := up_unique (h.up l hl) (k.up m hm) fun u => by
    constructor
    · intro hu
      obtain ⟨u0, u1, _⟩ := h.mem l hl u hu
      rw [← Int.toNat_of_nonneg u0] at hu ⊢
      exact (k2 _ u1).2 ((h2 _ u1).1 hu)
    · intro hu
      obtain ⟨u0, u1, _⟩ := k.mem m hm u hu
      rw [← Int.toNat_of_nonneg u0] at hu ⊢
      exact (h2 _ u1).2 ((k2 _ u1).1 hu)
  rw [this]; exact hm

/-- There is one way to part them. -/
theorem PartsOk.unique {n : NetL} {ls ks : List (List Int)} (h : PartsOk n ls) (k : PartsOk n ks) : ls = ks := by
  cases hn : netOk n with
  | false => rw [h.bad hn, k.bad hn]
  | true => exact key_unique (fun l => l.headD 0) h.first k.first fun l => ⟨h.sub k hn, k.sub h hn⟩

/-- Those with one head, rising. -/
def withHead (h : Nat → Int) (a : Int) (m : Nat) : List Int := ((List.range m).filter fun i => h i == a).map fun i : Nat => (i : Int)
theorem withHead_zero (h : Nat → Int) (a : Int) : withHead h a 0 = [] := rfl
theorem withHead_yes (h : Nat → Int) (a : Int) (m : Nat) (e : h m = a) : withHead h a (m + 1) = withHead h a m ++ [(m : Int)] := by simp [withHead, List.range_succ, e]
theorem withHead_no (h : Nat → Int) (a : Int) (m : Nat) (e : h m ≠ a) : withHead h a (m + 1) = withHead h a m := by simp [withHead, List.range_succ, e]
theorem withHead_le (h : Nat → Int) (a : Int) (m : Nat) : (withHead h a m).length ≤ m := by
  unfold withHead
  rw [List.length_map]
  exact Nat.le_trans (List.length_filter_le _ _) (by simp)
theorem withHead_mem (h : Nat → Int) (a : Int) (m : Nat) (t : Int) : t ∈ withHead h a m ↔ ∃ i : Nat, t = i ∧ i < m ∧ h i = a := by
  unfold withHead
  simp only [List.mem_map, List.mem_filter, List.mem_range, beq_iff_eq]
  constructor
  · rintro ⟨i, ⟨h1, h2⟩, rfl⟩; exact ⟨i, rfl, h1, h2⟩
  · rintro ⟨i, rfl, h1, h2⟩; exact ⟨i, ⟨h1, h2⟩, rfl⟩
theorem withHead_up (h : Nat → Int) (a : Int) (m : Nat) : (withHead h a m).Pairwise (· < ·) := by
  unfold withHead
  rw [List.pairwise_map]
  exact List.Pairwise.imp_of_mem (fun _ _ h => by omega) (List.Pairwise.filter _ List.pairwise_lt_range)

/-- The parts, head by head, without the empty ones. -/
def heads (h : Nat → Int) (m : Nat) : Nat → List (List Int)
  | 0 => []
  | a + 1 => heads h m a ++ (if withHead h a m = [] then [] else [withHead h a m])
theorem heads_none {h : Nat → Int} {m a : Nat} (e : withHead h a m = []) : heads h m (a + 1) = heads h m a := by simp [heads, e]
theorem heads_some {h : Nat → Int} {m a : Nat} (e : withHead h a m ≠ []) : heads h m (a + 1) = heads h m a ++ [withHead h a m] := by simp [heads, e]
theorem heads_le (h : Nat → Int) (m : Nat) : ∀ a, (heads h m a).length ≤ a
  | 0 => Nat.le_refl _
  | a + 1 => by
    have := heads_le h m a
    simp only [heads, List.length_append]
    split <;> simp <;> omega
theorem heads_mem {h : Nat → Int} {m : Nat} {l : List Int} : ∀ {a : Nat}, l ∈ heads h m a ↔ ∃ b, b < a ∧ l = withHead h b m ∧ l ≠ []
  | 0 => by simp [heads]
  | a + 1 => by
    by_cases e : withHead h a m = []
    · rw [heads_none e, heads_mem]
      constructor
      · rintro ⟨b, h1, h2⟩; exact ⟨b, by omega, h2⟩
      · rintro ⟨b, h1, h2, h3⟩
        refine ⟨b, ?_, h2, h3⟩
        rcases Nat.lt_or_ge b a with h4 | h4
        · exact h4
        · obtain rfl : b = a := by omega
          rw [h2] at h3; exact absurd e h3
    · rw [heads_some e, List.mem_append, heads_mem, List.mem_singleton]
      constructor
      · rintro (⟨b, h1, h2⟩ | h1)
        · exact ⟨b, by omega, h2⟩
        · exact ⟨a, by omega, h1, by rw [h1]; exact e⟩
      · rintro ⟨b, h1, h2, h3⟩
        rcases Nat.lt_or_ge b a with h4 | h4
        · exact .inl ⟨b, h4, h2, h3⟩
        · obtain rfl : b = a := by omega
          exact .inr h2

/-- What is known of heads behind so many rounds: each is one that it is led to, and not above whoever is within so many steps. -/
structure HeadOk (n : NetL) (h : Nat → Int) : Prop where
  low : ∀ i, i < n.trans.length → 0 ≤ h i ∧ h i ≤ i
  led : ∀ i, i < n.trans.length → Led n i (h i).toNat
def Below1 (n : NetL) (r : Nat) (h : Nat → Int) (i : Nat) : Prop := ∀ k x, k ≤ r → StepsN n k i x → h i ≤ x
/-- In the midst of a round: these are through, and of this one so many were looked at. -/
structure HeadMid (n : NetL) (r i j : Nat) (h : Nat → Int) : Prop where
  ok : HeadOk n h
  old : ∀ a, a < n.trans.length → Below1 n r h a
  past : ∀ a, a < i → a < n.trans.length → Below1 n (r + 1) h a
  seen : ∀ c, c < j → c < n.trans.length → Shares n i c → ∀ k x, k ≤ r → StepsN n k c x → h i ≤ x

theorem head_first (n : NetL) (h : Nat → Int) (e : ∀ i, i < n.trans.length → h i = i) : HeadMid n 0 0 0 h where
  ok := ⟨fun i hi => by rw [e i hi]; omega, fun i hi => by rw [e i hi]; exact Led.here n i⟩
  old := fun a ha k x hk hs => by
    obtain rfl : k = 0 := by omega
    rw [e a ha, show a = x from hs]; exact Int.le_refl _
  past := fun a h => absurd h (Nat.not_lt_zero _)
  seen := fun c h => absurd h (Nat.not_lt_zero _)

def setH (h : Nat → Int) (i : Nat) (x : Int) : Nat → Int := fun a => if a = i then x else h a

theorem HeadMid.skip {n : NetL} {r i j : Nat} {h : Nat → Int} (H : HeadMid n r i j h) (hs : ¬ Shares n i j) : HeadMid n r i (j + 1) h :=
  ⟨H.ok, H.old, H.past, fun c hc hl hs' k x hk h1 => by
    rcases Nat.lt_or_ge c j with h2 | h2
    · exact H.seen c h2 hl hs' k x hk h1
    · obtain rfl : c = j := by omega
      exact absurd hs' hs⟩

theorem HeadMid.put {n : NetL} {r i j : Nat} {h : Nat → Int} (H : HeadMid n r i j h) (hi : i < n.trans.length) (hj : j < n.trans.length) (hs : Shares n i j) : HeadMid n r i (j + 1) (setH h i (min (h i) (h j))) := by
  have hle : ∀ a, setH h i (min (h i) (h j)) a ≤ h a := by
    intro a; unfold setH; split
    · rename_i e; subst e; exact Int.min_le_left _ _
    · exact Int.le_refl _
  refine ⟨⟨fun a ha => ?_, fun a ha => ?_⟩, fun a ha k x hk h1 => Int.le_trans (hle a) (H.old a ha k x hk h1), fun a h0 ha k x hk h1 => Int.le_trans (hle a) (H.past a h0 ha k x hk h1), fun c hc hl hs' k x hk h1 => ?_⟩
  · have := H.ok.low a ha
    refine ⟨?_, Int.le_trans (hle a) this.2⟩
    unfold setH; split
    · have := H.ok.low i hi; have := H.ok.low j hj; omega
    · exact this.1
  · unfold setH; split
    · rename_i e; subst e
      rcases Int.le_total (h a) (h j) with h1 | h1
      · rw [Int.min_eq_left h1]; exact H.ok.led a ha
      · rw [Int.min_eq_right h1]; exact ((Led.here n a).step ha hj hs).trans (H.ok.led j hj)
    · exact H.ok.led a ha
  · rcases Nat.lt_or_ge c j with h2 | h2
    · exact Int.le_trans (hle i) (H.seen c h2 hl hs' k x hk h1)
    · obtain rfl : c = j := by omega
      have h3 := H.old c hl k x hk h1
      refine Int.le_trans ?_ h3
      unfold setH; rw [if_pos rfl]; exact Int.min_le_right _ _

theorem HeadMid.row {n : NetL} {r i : Nat} {h : Nat → Int} (H : HeadMid n r i n.trans.length h) (hi : i < n.trans.length) : HeadMid n r (i + 1) 0 h := by
  refine ⟨H.ok, H.old, fun a h0 ha k x hk h1 => ?_, fun c hc => absurd hc (Nat.not_lt_zero _)⟩
  rcases Nat.lt_or_ge a i with h2 | h2
  · exact H.past a h2 ha k x hk h1
  · obtain rfl : a = i := by omega
    cases k with
    | zero => exact H.old a ha 0 x (Nat.zero_le _) h1
    | succ k =>
      obtain ⟨c, hc, hs, h3⟩ := h1
      exact H.seen c hc hc hs k x (by omega) h3

theorem HeadMid.round {n : NetL} {r : Nat} {h : Nat → Int} (H : HeadMid n r n.trans.length 0 h) : HeadMid n (r + 1) 0 0 h :=
  ⟨H.ok, fun a ha => H.past a ha ha, fun a h => absurd h (Nat.not_lt_zero _), fun c h => absurd h (Nat.not_lt_zero _)⟩

theorem head_same {n : NetL} {h : Nat → Int} (H : HeadMid n n.trans.length 0 0 h) {i j : Nat} (hi : i < n.trans.length) (hj : j < n.trans.length) : h i = h j ↔ Led n i j := by
  have lt : ∀ a, a < n.trans.length → (h a).toNat < n.trans.length := fun a ha => by have := H.ok.low a ha; omega
  have low : ∀ a b, a < n.trans.length → b < n.trans.length → Led n a b → h a ≤ b := fun a b ha hb hl => by
    obtain ⟨k, hk, hs⟩ := led_short ha hb hl
    exact H.old a ha k b hk hs
  constructor
  · intro e
    have h1 := H.ok.led i hi
    rw [e] at h1
    exact h1.trans (H.ok.led j hj).symm
  · intro hl
    have h1 := low i _ hi (lt j hj) (hl.trans (H.ok.led j hj))
    have h2 := low j _ hj (lt i hi) (hl.symm.trans (H.ok.led i hi))
    have := H.ok.low i hi
    have := H.ok.low j hj
    omega

theorem heads_parts {n : NetL} {h : Nat → Int} (hn : netOk n = true) (H : HeadMid n n.trans.length 0 0 h) : PartsOk n (heads h n.trans.length n.trans.length) := by
  have hh : ∀ a, a < n.trans.length → h (h a).toNat = h a ∧ (h a).toNat < n.trans.length := fun a ha => by
    have := H.ok.low a ha
    have hl : (h a).toNat < n.trans.length := by omega
    exact ⟨((head_same H hl ha).2 (H.ok.led a ha).symm), hl⟩
  have hd : ∀ b : Nat, withHead h b n.trans.length ≠ [] → (withHead h b n.trans.length).headD 0 = (b : Int) := fun b hne => by
    obtain ⟨t, r, e⟩ := List.exists_cons_of_ne_nil hne
    obtain ⟨i, rfl, hi, hb⟩ := (withHead_mem h b _ t).1 (by rw [e]; simp)
    have hm : (b : Int) ∈ withHead h b n.trans.length := by
      obtain ⟨h1, h2⟩ := hh i hi
      rw [hb] at h1 h2
      exact (withHead_mem h b _ b).2 ⟨b, rfl, by simpa using h2, by simpa using h1⟩
    have hup := withHead_up h b n.trans.length
    rw [e] at hm hup ⊢
    have := H.ok.low i hi
    rcases List.mem_cons.1 hm with h3 | h3
    · exact h3.symm
    · have := (List.pairwise_cons.1 hup).1 _ h3
      omega
  refine ⟨fun hb => (by rw [hn] at hb; cases hb), fun l hl => ?_, fun l hl => ?_, ?_, fun l hl t ht => ?_, fun _ k hk => ?_⟩
  · obtain ⟨b, _, _, h3⟩ := heads_mem.1 hl; exact h3
  · obtain ⟨b, _, rfl, _⟩ := heads_mem.1 hl; exact withHead_up _ _ _
  · have : ∀ a, (heads h n.trans.length a).Pairwise (fun a b => a.headD 0 < b.headD 0) := by
      intro a
      induction a with
      | zero => exact List.Pairwise.nil
      | succ a ih =>
        by_cases e : withHead h a n.trans.length = []
        · rw [heads_none e]; exact ih
        · rw [heads_some e, List.pairwise_append]
          refine ⟨ih, List.pairwise_singleton _ _, fun x hx y hy => ?_⟩
          obtain ⟨b, h1, h2, h3⟩ := heads_mem.1 hx
          obtain rfl := List.mem_singleton.1 hy
          rw [h2] at h3 ⊢
          rw [hd b h3, hd a e]; omega
    exact this _
  · obtain ⟨b, _, rfl, _⟩ := heads_mem.1 hl
    obtain ⟨i, rfl, hi, hb⟩ := (withHead_mem h b _ t).1 ht
    refine ⟨by omega, by simpa using hi, fun u hu => ?_⟩
    rw [withHead_mem]
    have hs := head_same H hi hu
    constructor
    · rintro ⟨j, e, hj, h2⟩
      obtain rfl : u = j := by omega
      exact hs.1 (hb.trans h2.symm)
    · intro hl
      exact ⟨u, rfl, hu, by rw [← hb]; exact (hs.2 hl).symm⟩
  · obtain ⟨h1, h2⟩ := hh k hk
    have hl := H.ok.low k hk
    have hm : (k : Int) ∈ withHead h ((h k).toNat : Int) n.trans.length := (withHead_mem _ _ _ _).2 ⟨k, rfl, hk, by omega⟩
    exact ⟨_, heads_mem.2 ⟨(h k).toNat, h2, rfl, fun e => by rw [e] at hm; cases hm⟩, hm⟩

theorem parts_bad {n : NetL} (h : netOk n = false) : PartsOk n [] :=
  ⟨fun _ => rfl, fun l hl => (by cases hl), fun l hl => (by cases hl), List.Pairwise.nil, fun l hl => (by cases hl), fun hn => (by rw [h] at hn; cases hn)⟩

end Go.Proofs.Ytgedpebnipghlaa
