/- The law JournalBack, walked: it answers true, and writes nothing that was there. -/
import Derived.Test.YteohpkicbkhpjaaJournLaw
namespace Go.Proofs.Yteohpkicbkhpjaa
open Go.RowKit
set_option linter.unusedVariables false
set_option linter.unusedSimpArgs false
set_option maxRecDepth 4000

set_option maxHeartbeats 4000000 in
theorem journalBack_walk (v : Value) (l : List DOp) (n : Int) (w : World) (hv : DOpsV w v l) :
    Calls Try.prog 4 #[v, .int .i64 n] w fun e w' => e = .returned (.bool true) ∧ Below w.heap.size w w' := by
  obtain ⟨a, ca, rfl, hla, hsh⟩ := hv.slice
  obtain ⟨len, Hlen⟩ : ∃ len, Hid (l.length = len) := ⟨_, rfl⟩
  rw [Hlen.out] at hv hla hsh ⊢
  go_enter Try.func4, Try.ntmps4
  go_wp2_with fail
  refine (alive18_any w).mono ?_
  rintro e w1 ⟨rfl, c⟩
  go_wp2_with fail
  refine (written_any _ l w1 (by exact hv.below c)).mono ?_
  rintro e w2 (⟨hA, r, rfl, hO⟩ | ⟨hA, rfl, b⟩)
  · have b2 := hO.2.1
    have HA : Hid (AllFit l) := hA
    obtain ⟨ra, rc, rfl⟩ := hO.slice
    have hwl : (writtenL l).length = 7 * len := by rw [written_length, Hlen.out]
    have hBy := hO.bytes (by rw [hwl]; omega) (written_byte hA)
    rw [hwl] at hBy ⊢
    obtain ⟨m, Hm⟩ : ∃ m, Hid (7 * len = m) := ⟨_, rfl⟩
    rw [Hm.out] at hBy hwl ⊢
    clear hO hA hwl
    by_cases h0 : n < 0
    · clear hBy
      go_wp2
      go_ret
      exact ⟨rfl, below_then c b2⟩
    · obtain ⟨k, rfl⟩ : ∃ k : Nat, n = k := ⟨n.toNat, by omega⟩
      by_cases h1 : m < k
      · have h1' : (m : Int) < (k : Int) := by omega
        clear hBy
        go_wp2
        go_ret
        exact ⟨rfl, below_then c b2⟩
      · have h1' : ¬ (m : Int) < (k : Int) := by omega
        have h1'' : k ≤ m := by omega
        obtain ⟨_, _, _, ee, _, _, hrs, _, _⟩ := id hBy
        injection ee with e1 e2 e3
        subst e1 e2 e3
        have hrc : m ≤ rc := hrs.1
        have hrc2 := hrs.2.1
        have hkr : k ≤ rc := by omega
        have hT := hBy.take (n := k) h1''
        go_wp2_with fail
        refine (journal_read _ ((writtenL l).take k) w2 (by exact hT)).mono ?_
        rintro e w3 ⟨r3, l3, d3, rfl, hO3, hR3⟩
        obtain ⟨rfl, rfl⟩ := hR3.unique (read_back HA.out (n := k) (by rw [Hlen.out, Hm.out]; exact h1''))
        have b3 := hO3.2.1
        have hl3 : (l.take (k / 7)).length = k / 7 := by rw [List.length_take, Hlen.out]; have := Hm.out; omega
        have hD3 := hO3.dops (by rw [hl3]; have := Hm.out; omega)
        obtain ⟨a3, c3, rfl⟩ := hO3.slice
        rw [hl3] at hD3 ⊢
        have R := below_then c (below_then b2 b3)
        have hq : k / 7 ≤ len := by have := Hm.out; omega
        have hqc : k / 7 ≤ ca := by have := hsh.1; omega
        have hca2 := hsh.2.1
        have hE := (hv.below R).take hq
        obtain ⟨q, Hq⟩ : ∃ q, Hid (k / 7 = q) := ⟨_, rfl⟩
        have hk7 : (k : Int) / 7 = (q : Int) := by have := Hq.out; omega
        have hk7t : Int.tdiv (k : Int) 7 = (q : Int) := by have := Hq.out; rw [Int.tdiv_eq_ediv_of_nonneg (by omega)]; omega
        rw [Hq.out] at hD3 hE hq hqc ⊢
        have hqm : q * 7 ≤ m := by have := Hq.out; omega
        clear hO3 hR3 hT hBy hl3 b2 b3
        go_wp2_with fail
        refine (eqdops_same _ _ (l.take q) w3 (by exact hD3) (by exact hE)).mono ?_
        rintro e w4 ⟨rfl, b4⟩
        have R4 := below_then R b4
        clear hD3 hE
        go_wp2
        go_ret
        exact ⟨rfl, R4⟩
  · go_wp2
    go_ret
    exact ⟨rfl, below_then c b⟩

end Go.Proofs.Yteohpkicbkhpjaa
