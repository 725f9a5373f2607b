/- The document's own texts: one weight, plainly; a row beside a reader. -/
import Derived.Test.YteeogdihaajicaaDoorTextRef3
import Derived.Test.YteeogdihaajicaaDoorRowAt
namespace Go.Proofs.YteeogdihaajicaaDoor
open Go.RowKit
set_option linter.unusedVariables false
set_option maxRecDepth 4000

section
variable {P : Nat} {R0 R d r1 : Bytes} {out : List Int} {least : Nat} {n : Int} {ok : Bool}
theorem numD_is {v : Int} (h : NumD d n ok) (h0 : 0 ≤ v) (h1 : v ≤ 16) (e : Lib.itoa v = d) : ok = true ∧ n = v := by
  rcases h with ⟨q, q1, q2⟩ | ⟨_, q⟩
  · exact ⟨q, itoa_inj q1 h0 (by rw [q2, e])⟩
  · exact absurd e (q v h0 h1)
theorem not42 {X : Bytes} (h : Blank X) : ¬ HeadIs (· = 42) X := h.not (by decide)
theorem no_dig42 (r : Bytes) : ¬ HeadIs isDig (42 :: r) := by rintro ⟨b, r', e, hb⟩; injection e with e _; subst e; exact dig_42 hb
/-- What a weight at a place would be, where no star is. -/
theorem plain_is {v : Int} {q : Nat} {X : Bytes} (hd : ∀ b ∈ d, isDig b) (hr : ¬ HeadIs isDig r1) (h42 : ¬ HeadIs (· = 42) r1) (hv : 1 ≤ v) (hX : Blank X) (e : tokT v q ++ X = d ++ r1) : v = 1 ∧ Lib.itoa (q : Int) = d ∧ X = r1 := by
  by_cases h1 : 1 < v
  · exfalso
    rw [tok_more h1, List.append_assoc, List.cons_append] at e
    obtain ⟨_, e2⟩ := part_one (p := isDig) (itoa_dig (by omega)) hd (no_dig42 _) hr e
    exact h42 ⟨42, _, e2.symm, rfl⟩
  · obtain rfl : v = 1 := by omega
    rw [tok_one] at e
    obtain ⟨e1, e2⟩ := part_one (p := isDig) (itoa_dig (n := (q : Int)) (by omega)) hd (hX.not dig_32) hr e
    exact ⟨rfl, e1, e2⟩
/-- .. and where a star is. -/
theorem star_is {v : Int} {q : Nat} {X r2 : Bytes} (hd : ∀ b ∈ d, isDig b) (hv : 1 ≤ v) (hX : Blank X) (e : tokT v q ++ X = d ++ 42 :: r2) : 1 < v ∧ Lib.itoa v = d ∧ Lib.itoa (q : Int) ++ X = r2 := by
  by_cases h1 : 1 < v
  · rw [tok_more h1, List.append_assoc, List.cons_append] at e
    obtain ⟨e1, e2⟩ := part_one (p := isDig) (itoa_dig (by omega)) hd (no_dig42 _) (no_dig42 _) e
    injection e2 with _ e2
    exact ⟨h1, e1, e2⟩
  · exfalso
    obtain rfl : v = 1 := by omega
    rw [tok_one] at e
    obtain ⟨e1, e2⟩ := part_one (p := isDig) (itoa_dig (n := (q : Int)) (by omega)) hd (hX.not dig_32) (no_dig42 _) e
    exact not42 hX ⟨42, _, e2, rfl⟩
theorem head_no62 {b : UInt8} {s : Bytes} (hb : isDig b) : ¬ ∃ r, b :: s = 62 :: r := by rintro ⟨r, e⟩; injection e with e _; subst e; exact dig_62 hb
theorem tok_no62 {w : Int} {p : Nat} {S : Bytes} (hw : 1 ≤ w) : ¬ ∃ r, tokT w p ++ S = 62 :: r := by
  obtain ⟨b, s, q4, q5⟩ := tok_head (w := w) (p := p) (by omega)
  rw [q4]
  exact head_no62 q5
theorem Side.plain_next (h : Side P R0 out least (32 :: (d ++ r1))) (hd : ∀ b ∈ d, isDig b) (hr : ¬ HeadIs isDig r1) (h42 : ¬ HeadIs (· = 42) r1) {p : Nat} (hn : Lib.itoa (p : Int) = d) (h1 : least ≤ p) (h2 : p < P) : Side P R0 (out.set p 1) (p + 1) r1 :=
  h.next h1 h2 (by omega) (by omega) (by rw [tok_one, hn]) (fun l R' k v m _ hR' _ hv e => by
    obtain ⟨e1, e2, e3⟩ := tok_part2 (w := 1) (p := p) (by omega) hv (side_stop_blank hR') hr (fun _ => h42) e
    exact ⟨e1, e2, e3⟩) (tok_no62 (by omega))
theorem Side.plain_fail (h : Side P R0 out least (32 :: (d ++ r1))) (hP : P ≤ 16) (h62 : ¬ ∃ r, d ++ r1 = 62 :: r) (hd : ∀ b ∈ d, isDig b) (hr : ¬ HeadIs isDig r1) (h42 : ¬ HeadIs (· = 42) r1) (hn : NumD d n ok) (hbad : ok = false ∨ n < least ∨ (P : Int) ≤ n) :
    ∀ l R', SideOk P l → StopT R' → R0 ≠ sideT 0 l ++ R' := fun l R' hl hR' =>
  h.none rfl (fun l R' k v m _ hR' _ hv hv9 hk e => by
    obtain ⟨_, e2, _⟩ := plain_is hd hr h42 hv (side_stop_blank hR') e
    obtain ⟨q1, q2⟩ := numD_is hn (by omega) (by omega) e2
    rcases hbad with q | q | q
    · rw [q1] at q; cases q
    · omega
    · omega) l R' hl hR' (.inr h62)
theorem Side.star_small {r2 : Bytes} (h : Side P R0 out least (32 :: (d ++ 42 :: r2))) (hP : P ≤ 16) (h62 : ¬ ∃ r, d ++ 42 :: r2 = 62 :: r) (hd : ∀ b ∈ d, isDig b) (hn : NumD d n ok) (hbad : n < 2 ∨ 9 < n) : ∀ l R', SideOk P l → StopT R' → R0 ≠ sideT 0 l ++ R' := fun l R' hl hR' =>
  h.none rfl (fun l R' k v m _ hR' _ hv hv9 hk e => by
    obtain ⟨h1, e2, _⟩ := star_is hd hv (side_stop_blank hR') e
    obtain ⟨q1, q2⟩ := numD_is hn (by omega) (by omega) e2
    omega) l R' hl hR' (.inr h62)
theorem Side.star_next {d2 r3 : Bytes} (h : Side P R0 out least (32 :: (d ++ 42 :: (d2 ++ r3)))) (hr3 : ¬ HeadIs isDig r3) {w : Int} {p : Nat} (hw : Lib.itoa w = d) (hw2 : 2 ≤ w) (hw9 : w ≤ 9) (hp : Lib.itoa (p : Int) = d2) (h1 : least ≤ p) (h2 : p < P) : Side P R0 (out.set p w) (p + 1) r3 :=
  h.next h1 h2 (by omega) hw9 (by rw [tok_more (by omega), hw, hp]; simp) (fun l R' k v m _ hR' _ hv e => by
    obtain ⟨e1, e2, e3⟩ := tok_part2 (w := w) (p := p) (by omega) hv (side_stop_blank hR') hr3 (fun q => by omega) e
    exact ⟨e1, e2, e3⟩) (tok_no62 (by omega))
theorem Side.star_fail {d2 r3 : Bytes} {p : Int} {two : Bool} (h : Side P R0 out least (32 :: (d ++ 42 :: (d2 ++ r3)))) (hP : P ≤ 16) (h62 : ¬ ∃ r, d ++ 42 :: (d2 ++ r3) = 62 :: r) (hd : ∀ b ∈ d, isDig b) (hd2 : ∀ b ∈ d2, isDig b) (hr3 : ¬ HeadIs isDig r3) (hn : NumD d n ok) (hp : NumD d2 p two)
    (hbad : ok = false ∨ two = false ∨ p < least ∨ (P : Int) ≤ p) : ∀ l R', SideOk P l → StopT R' → R0 ≠ sideT 0 l ++ R' := fun l R' hl hR' =>
  h.none rfl (fun l R' k v m _ hR' _ hv hv9 hk e => by
    obtain ⟨h1, e2, e3⟩ := star_is hd hv (side_stop_blank hR') e
    obtain ⟨q1, q2⟩ := numD_is hn (by omega) (by omega) e2
    obtain ⟨e4, _⟩ := part_one (p := isDig) (itoa_dig (n := ((least + k : Nat) : Int)) (by omega)) hd2 ((side_stop_blank hR').not dig_32) hr3 e3
    obtain ⟨q3, q4⟩ := numD_is hp (by omega) (by omega) e4
    rcases hbad with q | q | q | q
    · rw [q1] at q; cases q
    · rw [q3] at q; cases q
    · omega
    · omega) l R' hl hR' (.inr h62)
end

/-- A row of ints of one's own, beside a reader. -/
structure RowZ (Br : Nat) (wr : World) (n : Nat) (f : Nat → Int) : Prop where
  cells : ∀ j, j < n → wr.cell? ⟨Br, j, none⟩ = some (.int .i64 (f j))
  frozen : ∀ j, j < n → wr.frozen? ⟨Br, j, none⟩ = false
  size : Br < wr.heap.size
theorem RowAt.z {B : Nat} {w wr : World} {n : Nat} {f : Nat → Int} (h : RowAt B w wr n f) : RowZ B wr n f := ⟨h.cells, h.frozen, h.size⟩
theorem RowZ.only {Br B : Nat} {w w' : World} {n : Nat} {f : Nat → Int} (h : RowZ Br w n f) (hO : OnlyB B w w') (hne : Br ≠ B) : RowZ Br w' n f := by
  have e := hO.block Br h.size hne
  exact ⟨fun j hj => (World.cell?_of_block (a := ⟨Br, j, none⟩) e).trans (h.cells j hj), fun j hj => (World.frozen?_of_block (a := ⟨Br, j, none⟩) e).trans (h.frozen j hj), Nat.lt_of_lt_of_le h.size hO.size⟩
theorem RowZ.put {Br : Nat} {wr : World} {n k : Nat} {f g : Nat → Int} (h : RowZ Br wr n f) (hk : k < n) {x : Int} (hx : g k = x) (hg : ∀ j, j < n → j ≠ k → g j = f j) : RowZ Br (wr.setCell ⟨Br, k, none⟩ (.int .i64 x)) n g := by
  refine ⟨fun j hj => ?_, fun j hj => by rw [World.frozen?_setCell]; exact h.frozen j hj, by simpa [World.setCell] using h.size⟩
  by_cases e : j = k
  · subst e
    rw [World.cell?_setCell_same _ _ _ (h.cells j hj), hx]
  · rw [World.cell?_setCell_other _ _ _ _ (by intro q; apply e; injection q with _ q2; exact q2.symm), h.cells j hj, hg j hj e]
theorem RowZ.on {Br W : Nat} {wr : World} {n : Nat} {zs : List Int} (h : RowZ Br wr n (nth zs)) (hl : zs.length = n) (hn : n ≤ 16) (hB : W ≤ Br) : On (fun k => W ≤ k) wr (fun w' => Ints w' (.slice (some ⟨Br, 0, none⟩) n n) zs) := by
  intro w' hs hk
  exact ⟨_, _, _, rfl, hl, by omega, ⟨Nat.le_refl _, by omega, fun h => by cases h⟩, fun j hj => ⟨Br, 0, rfl, Nat.lt_of_lt_of_le h.size hs, by rw [Nat.zero_add, World.cell?_of_block (a := ⟨Br, j, none⟩) (hk Br h.size hB), h.cells j (by omega)]⟩⟩
theorem Rd.other {w : World} {B Br k : Nat} {s : Bytes} (h : Rd w B s k) (hne : Br ≠ B) (off : Nat) (v : Value) : Rd (w.setCell ⟨Br, off, none⟩ v) B s k := by
  obtain ⟨h0, h1, h2⟩ := h.box
  refine ⟨⟨by simpa [World.setCell] using h0, ?_, ?_⟩, by rw [World.frozen?_setCell]; exact h.fz, h.le⟩
  · rw [World.cell?_setCell_other _ _ _ _ (by intro q; injection q with q _; exact hne q)]; exact h1
  · rw [World.cell?_setCell_other _ _ _ _ (by intro q; injection q with q _; exact hne q)]; exact h2
/-- A new block was written: of the old ones all but the reader's stand. -/
theorem OnlyB.put {B Br off : Nat} {w w' : World} (h : OnlyB B w w') (hB : B ≤ Br) (hBr : w.heap.size ≤ Br) (v : Value) : OnlyB B w (w'.setCell ⟨Br, off, none⟩ v) :=
  ⟨h.below.setCell (p := ⟨Br, off, none⟩) hB v, Nat.le_trans h.size (by simp [World.setCell]), fun k hk hne => by rw [Below.heap_setCell w' ⟨Br, off, none⟩ v k (by show k ≠ Br; omega)]; exact h.block k hk hne⟩

end Go.Proofs.YteeogdihaajicaaDoor
