import Derived.Test.YtffaamljogbmlaaGr08
import Derived.Test.YtffaamljogbmlaaGr00
import Derived.Maps.OwnSet
import Derived.DeepKeys4
import Derived.Laws.EntriesVeiled
import Derived.Test.YtffaamljogbmlaaGr01
import Derived.Test.YtffaamljogbmlaaGr03
/- Package shape as it landed: what is met on ways from a stop. -/
namespace Go.Proofs.Ytffaamljogbmlaa
open Go.RowKit Go.Maps Go.WideMaps
set_option linter.unusedVariables false
set_option maxRecDepth 4000

/-- A stop as a value, and as a key. -/
abbrev stopV (s : Stop) : Value := .agg #[.bool s.1, .int .i64 (s.2 : Int)]
def stopLit (s : Stop) : Lit := .string (keyBytes [.bool s.1, .int .i64 (s.2 : Int)])

/-- What the map of those that have been met says. -/
structure SaysS (vs : List Stop) (D : DataW Unit) : Prop where
  has : ∀ s : Stop, s.2 < 1000 → Maps.has D (stopLit s) = decide (s ∈ vs)
  size : Maps.size D = vs.length

theorem saysS_nil : SaysS [] (.map []) := ⟨fun s _ => by simp [Maps.has], rfl⟩

section
variable {bb bn bc mb : Nat} {n : NetL} {tv : Value} {w : World} {vs : List Stop}

theorem OnlyB.of_below (g : Nat) {w w' : World} (hg : g ≤ w.heap.size) (h : Below w.heap.size w w') : OnlyB g w w' := ⟨h.mono hg, h.size, fun k hk _ => h.block k hk⟩
theorem OnlyB.box1 {g : Nat} {w w' : World} (h : OnlyB g w w') {b : Nat} {x : Value} (hb : b ≠ g) (hx : Box1 w b x) : Box1 w' b x := ⟨Nat.lt_of_lt_of_le hx.1 h.size, h.cell hb hx.2⟩
theorem OnlyB.box2 {g : Nat} {w w' : World} (h : OnlyB g w w') {b : Nat} {x y : Value} (hb : b ≠ g) (hx : Box2 w b x y) : Box2 w' b x y := ⟨Nat.lt_of_lt_of_le hx.1 h.size, h.cell hb hx.2.1, h.cell hb hx.2.2⟩
theorem OnlyB.on {g : Nat} {w w' : World} {R : World → Prop} (h : OnlyB g w w') (hR : On (fun k => k ≠ g) w R) : On (fun k => k ≠ g) w' R := hR.to h.size fun k hk hD => h.block k hk hD

end

theorem fit_small {n : NetL} (hn : netOk n = true) {s : Stop} (hs : FitS n s) : s.2 < 1000 := by
  obtain ⟨h0, h1, h2⟩ := head_of hn
  obtain ⟨b, k⟩ := s
  cases b with
  | true => have : k < n.trans.length := hs; show k < 1000; omega
  | false => have : (k : Int) < n.places := hs; show k < 1000; omega

theorem count_small {n : NetL} (hn : netOk n = true) {vs : List Stop} (hd : vs.Nodup) (hf : ∀ x ∈ vs, FitS n x) : vs.length ≤ (allS n).length ∧ (allS n).length ≤ 40 := by
  obtain ⟨h0, h1, h2⟩ := head_of hn
  have := allS_length h0
  exact ⟨nodup_le hd fun x hx => mem_allS.2 (hf x hx), by omega⟩

/-! What was there stays, as long as its blocks do. -/
theorem Ints.stays {w w' : World} {v : Value} {xs : List Int} (h : Ints w v xs) (hs : w.heap.size ≤ w'.heap.size) (hk : ∀ k, k < w.heap.size → w'.heap[k]? = w.heap[k]?) : Ints w' v xs := by
  obtain ⟨a, len, cap, e, hl, hm, hsh, hr⟩ := h
  refine ⟨a, len, cap, e, hl, hm, hsh, fun j hj => ?_⟩
  obtain ⟨b, off, ha, hlt, hc⟩ := hr j hj
  exact ⟨b, off, ha, Nat.lt_of_lt_of_le hlt hs, (World.cell?_of_block (a := ⟨b, off + j, none⟩) (hk b hlt)).trans hc⟩

theorem Net.stays {w w' : World} {v : Value} {n : NetL} (h : Net w v n) (hs : w.heap.size ≤ w'.heap.size) (hk : ∀ k, k < w.heap.size → w'.heap[k]? = w.heap[k]?) : Net w' v n := by
  obtain ⟨tv, e, a, len, cap, e2, hl, hm, hsh, hr⟩ := h
  refine ⟨tv, e, a, len, cap, e2, hl, hm, hsh, fun j hj => ?_⟩
  obtain ⟨b, off, c1, c2, ha, hlt, h0, h1, h2, h3, h4⟩ := hr j hj
  have q : ∀ i, w'.cell? ⟨b, i, none⟩ = w.cell? ⟨b, i, none⟩ := fun i => World.cell?_of_block (a := ⟨b, i, none⟩) (hk b hlt)
  exact ⟨b, off, c1, c2, ha, Nat.lt_of_lt_of_le hlt hs, (q _).trans h0, (q _).trans h1, (q _).trans h2, h3.stays hs hk, h4.stays hs hk⟩

end Go.Proofs.Ytffaamljogbmlaa

/- Package shape as it landed: the mark at the beginning; what comes ahead and behind; all on ways. -/
namespace Go.Proofs.Ytffaamljogbmlaa
open Go.RowKit
set_option linter.unusedVariables false
set_option maxRecDepth 4000

set_option maxHeartbeats 1000000 in
theorem shape_start_own (v : Value) (n : NetL) (i : Int) (w : World) (hv : Net w v n) :
    Calls Try.prog 27 #[v, .int .i64 i] w fun e w' => ∃ r, e = .returned r ∧ On (fun k => w.heap.size ≤ k) w' (fun w'' => Ints w'' r (startL n.places i)) ∧ Below w.heap.size w w' := by
  obtain ⟨tv, rfl, hT⟩ := hv
  obtain ⟨w0, Hw0⟩ : ∃ w0, Hid (w.alloc (.cells #[.int .i64 n.places, tv] 24) = w0) := ⟨_, rfl⟩
  have c : Below w.heap.size w w0 := by rw [← Hw0.out]; exact below_new _ _
  have hbx : Box2 w0 w.heap.size (.int .i64 n.places) tv := by rw [← Hw0.out]; exact box2_new w _ tv 24
  obtain ⟨P, HP⟩ : ∃ P, Hid (n.places = P) := ⟨_, rfl⟩
  rw [HP.out] at hbx Hw0 ⊢
  obtain ⟨N, HN⟩ : ∃ N : Nat, Hid ((min P 16).toNat = N) := ⟨_, rfl⟩
  have HL : Hid ((startL P i).length = N) := (start_length P i).trans HN.out
  have HA : Hid (∀ j, j < N → nth (startL P i) j = if (j : Int) = i then 1 else 0) := fun j hj => start_at P i j (by rw [HN.out]; exact hj)
  have hN16 : N ≤ 16 := by rw [← HN.out]; omega
  obtain ⟨x0, x1, x2⟩ := id hbx
  obtain ⟨w1, hmk, hR⟩ : ∃ w1, (Instr.makeSlice 25 (.int .i64 (min (max P 0) 16)) (.int .i64 (min (max P 0) 16))).run Try.prog w0 = .ok (.slice (some ⟨w0.heap.size, 0, none⟩) N N) w1 ∧ RowAt w0.heap.size w0 w1 N (fun _ => 0) :=
    make_intsZ w0 N _ (by rw [← HN.out]; omega) (by omega)
  have hcase : (P < 0 ∧ min (max P 0) 16 = 0) ∨ (P = 0 ∧ min (max P 0) 16 = 0) ∨ (0 < P ∧ P < 16 ∧ min (max P 0) 16 = P) ∨ (P = 16 ∧ min (max P 0) 16 = 16) ∨ (16 < P ∧ min (max P 0) 16 = 16) := by omega
  clear HN HP
  go_enter Try.func27, Try.ntmps27
  go_upto_region 1 with fail
  rw [Hw0.out]
  clear Hw0
  by_cases hin : 0 ≤ i ∧ i < N
  · obtain ⟨k, rfl⟩ : ∃ k : Nat, i = k := ⟨i.toNat, by omega⟩
    have hk : k < N := by omega
    clear hin
    have R1 := hR.put (k := k) hk (x := 1) (g := fun j => if (j : Int) = (k : Int) then 1 else 0) (by simp) (fun j _ hj => by simp; omega)
    have R : On (fun k => w.heap.size ≤ k) (w1.setCell ⟨w0.heap.size, k, none⟩ (.int .i64 1)) (fun w'' => Ints w'' (.slice (some ⟨w0.heap.size, 0, none⟩) N N) (startL P (k : Int))) :=
      (R1.on HL.out HA.out (by omega) (Nat.le_refl _) (by omega)).weaken fun k _ hk => Nat.le_trans c.size hk
    have R2 := below_then c R1.below
    have HR : Hid _ := R
    have HR2 : Hid _ := R2
    have f := hR.frozen k hk
    have c1 := hR.cells k hk
    clear R R1 R2 hR
    rcases hcase with ⟨h1, e⟩ | ⟨rfl, e⟩ | ⟨h1, h2, e⟩ | ⟨rfl, e⟩ | ⟨h1, e⟩
    all_goals
      rw [e] at hmk
      clear e
      go_wp2
      go_ret
      exact ⟨_, rfl, HR.out, HR2.out⟩
  · have R : On (fun k => w.heap.size ≤ k) w1 (fun w'' => Ints w'' (.slice (some ⟨w0.heap.size, 0, none⟩) N N) (startL P i)) :=
      (hR.on HL.out (fun j hj => by rw [HA.out j hj, if_neg (by omega)]) (by omega) (Nat.le_refl _) (by omega)).weaken fun k _ hk => Nat.le_trans c.size hk
    have R2 := below_then c hR.below
    have HR : Hid _ := R
    have HR2 : Hid _ := R2
    clear R R2 hR
    have hor : decide (0 ≤ i) = false ∨ (0 ≤ i ∧ decide (i < (N : Int)) = false) := by
      simp only [decide_eq_false_iff_not]
      omega
    clear hin
    rcases hor with h0 | ⟨h0, h3⟩
    all_goals
      rcases hcase with ⟨h1, e⟩ | ⟨rfl, e⟩ | ⟨h1, h2, e⟩ | ⟨rfl, e⟩ | ⟨h1, e⟩
      all_goals
        rw [e] at hmk
        clear e
        go_wp2
        go_ret
        exact ⟨_, rfl, HR.out, HR2.out⟩

/-- A place of a net. -/
def isPlace (P p : Int) : Bool := decide (0 ≤ p) && decide (p < P)

/-- Something comes ahead of the beginning, or behind the end. -/
def endsBad (i o : Nat) (t : TranL) : Bool := decide (0 < nth t.post i) || decide (0 < nth t.pre o)

/-- Whether there are two ends. -/
def endsL (n : NetL) (i o : Int) : Bool := isPlace n.places i && (isPlace n.places o && (!decide (i = o) && !n.trans.any (endsBad i.toNat o.toNat)))

/-- All are on ways from one end to the other. -/
def Between (n : NetL) (i o : Nat) : Prop := (∀ x, FitS n x → OnWay n (false, i) x) ∧ ∀ x, FitS (turnL n) x → OnWay (turnL n) (false, o) x

end Go.Proofs.Ytffaamljogbmlaa
