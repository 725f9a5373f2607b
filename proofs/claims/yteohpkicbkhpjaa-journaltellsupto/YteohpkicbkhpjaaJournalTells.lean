/- The law JournalTells, walked: it answers true, and writes nothing that was there. -/
import Derived.Test.YteohpkicbkhpjaaJournRef3
namespace Go.Proofs.Yteohpkicbkhpjaa
open Go.RowKit
set_option linter.unusedVariables false
set_option linter.unusedSimpArgs false
set_option maxRecDepth 4000

theorem write_byte (o : DOp) (j : Nat) : isByte (nth (writeJ o).1 j) := by
  unfold writeJ
  cases hf : fitsO o with
  | false => simp only [Bool.false_eq_true, if_false]; exact ⟨by simp [nth], by simp [nth]⟩
  | true => simp only [if_true]; exact seven_byte hf j
theorem write_length (o : DOp) : (writeJ o).1.length ≤ 7 := by
  unfold writeJ
  split <;> simp [seven]

set_option maxHeartbeats 4000000 in
theorem journalTells_walk (v : Value) (o : DOp) (xs : List Int) (w : World) (hv : BytesV w v xs) :
    Calls Try.prog 3 #[dopW o, v] w fun e w' => e = .returned (.bool true) ∧ Below w.heap.size w w' := by
  obtain ⟨a, ca, rfl, hla, hsh⟩ := hv.slice
  obtain ⟨len, Hlen⟩ : ∃ len, Hid (xs.length = len) := ⟨_, rfl⟩
  rw [Hlen.out] at hv hla hsh ⊢
  have b1 := below_new w (.cells (dopA o) 23)
  have hB := boxJ_new w o
  unfold dopW
  obtain ⟨wa, Hwa⟩ : ∃ v, Hid (w.alloc (.cells (dopA o) 23) = v) := ⟨_, rfl⟩
  rw [Hwa.out] at b1 hB
  obtain ⟨c0, c1, c2, c3, c4⟩ := hB.cells
  go_enter Try.func3, Try.ntmps3
  go_upto_region 1 with fail
  rw [Hwa.out]
  clear Hwa
  go_wp2_with fail
  refine (journal_write o wa).mono ?_
  rintro e w1 ⟨r1, rfl, hO1⟩
  have c := below_then b1 hO1.2.1
  replace hB := hB.below hO1.2.1
  clear c0 c1 c2 c3 c4 b1
  have hY1 := hO1.bytes (by have := write_length o; omega) (write_byte o)
  obtain ⟨ra, rc, rfl⟩ := hO1.slice
  clear hO1
  obtain ⟨wl, Hwl⟩ : ∃ n, Hid ((writeJ o).1.length = n) := ⟨_, rfl⟩
  rw [Hwl.out] at hY1 ⊢
  obtain ⟨c0, c1, c2, c3, c4⟩ := hB.cells
  go_wp2_with fail
  refine (rwrite_any o w1).mono ?_
  rintro e w2 ⟨r2, rfl, hO2⟩
  replace c := below_then c hO2.2.1
  replace hY1 := hY1.below hO2.2.1
  clear c0 c1 c2 c3 c4 hB
  have hY2 := hO2.bytes (by have := write_length o; omega) (write_byte o)
  obtain ⟨rb, rd, rfl⟩ := hO2.slice
  clear hO2
  rw [Hwl.out] at hY2 ⊢
  go_wp2_with fail
  refine (journal_read _ xs w2 (by exact hv.below c)).mono ?_
  rintro e w3 ⟨r3, l, d, rfl, hO3, hR3⟩
  have hrm := hR3.room
  rw [Hlen.out] at hrm
  have b3 := hO3.2.1
  have hD3 := hO3.dops (by omega)
  obtain ⟨la, lc, rfl⟩ := hO3.slice
  replace c := below_then c b3
  replace hY1 := hY1.below b3
  replace hY2 := hY2.below b3
  obtain ⟨k, Hk⟩ : ∃ n, Hid (l.length = n) := ⟨_, rfl⟩
  rw [Hk.out] at hD3 hrm ⊢
  clear hO3 b3
  go_wp2_with fail
  refine (rread_any _ xs w3 (by exact hv.below c)).mono ?_
  rintro e w4 ⟨r4, l', d', rfl, hO4, hR4⟩
  obtain ⟨rfl, rfl⟩ := hR3.unique hR4
  have b4 := hO4.2.1
  have hD4 := hO4.dops (by rw [Hk.out]; omega)
  obtain ⟨lb, ld, rfl⟩ := hO4.slice
  replace c := below_then c b4
  replace hY1 := hY1.below b4
  replace hY2 := hY2.below b4
  replace hD3 := hD3.below b4
  rw [Hk.out] at hD4 ⊢
  clear hO4 b4 hR3 hR4
  obtain ⟨s, Hs⟩ : ∃ s, Hid (strJ (writeJ o).1 = s) := ⟨_, rfl⟩
  have k1 : (convert 24 9 (.slice ra wl rc)).run Try.prog w4 = .ok (.string s) w4 := by
    rw [← Hs.out, ← Hwl.out]
    exact conv_bytes _ _ _ _ (by rw [Hwl.out]; exact hY1)
  have k2 : (convert 24 9 (.slice rb wl rd)).run Try.prog w4 = .ok (.string s) w4 := by
    rw [← Hs.out, ← Hwl.out]
    exact conv_bytes _ _ _ _ (by rw [Hwl.out]; exact hY2)
  clear hY1 hY2
  go_wp2_with fail
  refine (eqdops_same _ _ l w4 (by exact hD3) (by exact hD4)).mono ?_
  rintro e w5 ⟨rfl, b5⟩
  have R := below_then c b5
  clear hD3 hD4 k1 k2
  go_wp2
  go_ret
  exact ⟨rfl, R⟩

end Go.Proofs.Yteohpkicbkhpjaa
