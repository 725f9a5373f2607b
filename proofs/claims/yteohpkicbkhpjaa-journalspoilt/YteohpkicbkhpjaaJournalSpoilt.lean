/- The law JournalSpoilt, walked: it answers true, and writes nothing that was there. -/
import Derived.Test.YteohpkicbkhpjaaJournLaw
namespace Go.Proofs.Yteohpkicbkhpjaa
open Go.RowKit
set_option linter.unusedVariables false
set_option linter.unusedSimpArgs false
set_option maxRecDepth 4000

theorem OwnU.put {B : Nat} {w wr : World} {a : Option Addr} {cap m : Nat} {zs : List Int} (h : OwnU B w wr (.slice a m cap) zs) {p : Nat} (hp : p < zs.length) (c : Int) :
    ∃ g, a = some ⟨g, 0, none⟩ ∧ B ≤ g ∧ wr.cell? ⟨g, p, none⟩ = some (.int .u8 (nth zs p)) ∧ wr.frozen? ⟨g, p, none⟩ = false ∧ OwnU B w (wr.setCell ⟨g, p, none⟩ (.int .u8 c)) (.slice a m cap) (zs.set p c) := by
  obtain ⟨hown, hb, hB⟩ := h
  have hown0 := hown
  obtain ⟨hlen, hcase⟩ := hown
  rcases hcase with ⟨e, h0⟩ | ⟨g, cap', cur, e, hg, hh, hn, hcap, hsz, htake⟩
  · omega
  · injection e with e1 e2 e3
    subst e1 e2 e3
    refine ⟨g, rfl, hg, ?_, by simp [World.frozen?, hh], ⟨⟨by simp, .inr ⟨g, cap, cur.setIfInBounds p (.int .u8 c), by rw [List.length_set], hg, setCell_blk hh p _, by rw [List.length_set]; exact hn, hcap, by simp [hsz], ?_⟩⟩, hb.setCell (p := ⟨g, p, none⟩) hg _, by simpa [World.setCell] using hB⟩⟩
    · rw [hown0.cellAt p (by omega)]
      simp [nth, List.getD, List.getElem?_eq_getElem hp]
    · rw [Array.toList_setIfInBounds, List.take_set, List.length_set, htake, List.map_set]

set_option maxHeartbeats 4000000 in
theorem journalSpoilt_walk (v : Value) (l : List DOp) (n c0 : Int) (w : World) (hv : DOpsV w v l) (hc0 : isByte c0) :
    Calls Try.prog 5 #[v, .int .i64 n, .int .u8 c0] w fun e w' => e = .returned (.bool true) ∧ Below w.heap.size w w' := by
  obtain ⟨a, ca, rfl, hla, hsh⟩ := hv.slice
  obtain ⟨len, Hlen⟩ : ∃ len, Hid (l.length = len) := ⟨_, rfl⟩
  rw [Hlen.out] at hv hla hsh ⊢
  go_enter Try.func5, Try.ntmps5
  go_wp2_with fail
  refine (alive18_any w).mono ?_
  rintro e w1 ⟨rfl, c⟩
  go_wp2_with fail
  refine (written_any _ l w1 (by exact hv.below c)).mono ?_
  rintro e w2 (⟨hA, r, rfl, hO⟩ | ⟨hA, rfl, b⟩)
  · have b2 := hO.2.1
    have HA : Hid (AllFit l) := hA
    obtain ⟨ra, rc, rfl⟩ := hO.slice
    have hwl : (writtenL l).length = 7 * len := by rw [written_length, Hlen.out]
    obtain ⟨m, Hm⟩ : ∃ m, Hid (7 * len = m) := ⟨_, rfl⟩
    have HWl : Hid ((writtenL l).length = m) := by show _ = _; rw [hwl, Hm.out]
    have hO' : OwnU w1.heap.size w1 w2 (.slice ra m rc) (writtenL l) := by rw [← HWl.out]; exact hO
    rw [HWl.out]
    clear hO hA hwl
    by_cases h0 : n < 0
    · clear hO'
      go_wp2
      go_ret
      exact ⟨rfl, below_then c b2⟩
    · obtain ⟨k, rfl⟩ : ∃ k : Nat, n = k := ⟨n.toNat, by omega⟩
      by_cases h1 : k < m
      · have h1' : ¬ (m : Int) ≤ (k : Int) := by omega
        obtain ⟨g, rfl, hg, ck, fk, hP⟩ := hO'.put (p := k) (by rw [HWl.out]; exact h1) c0
        obtain ⟨x, Hx⟩ : ∃ x, Hid (nth (writtenL l) k = x) := ⟨_, rfl⟩
        rw [Hx.out] at ck
        by_cases hxc : x = c0
        · subst hxc
          clear hO' hP
          go_wp2
          go_ret
          exact ⟨rfl, below_then c b2⟩
        · have hxc' : (x == c0) = false := by rw [beq_eq_false_iff_ne]; exact hxc
          have HRd : Hid (ReadOk ((writtenL l).set k c0) (l.take (k / 7)) 8) := read_spoilt HA.out (by rw [Hlen.out, Hm.out]; exact h1) hc0 (by rw [Hx.out]; exact hxc)
          have hBy := hP.bytes (by rw [List.length_set, HWl.out]; have := Hm.out; omega) (fun j => by
            rw [nth_set' _ _ _ _ (by rw [HWl.out]; exact h1)]
            split
            · exact hc0
            · exact written_byte HA.out j)
          have b3 := hP.2.1
          go_upto_region 7 with fail
          obtain ⟨w3, Hw3⟩ : ∃ v, Hid (w2.setCell ⟨g, k, none⟩ (.int .u8 c0) = v) := ⟨_, rfl⟩
          rw [Hw3.out] at hBy b3 ⊢
          clear Hw3 hO' hP ck fk hxc
          go_wp2_with fail
          refine (journal_read _ ((writtenL l).set k c0) w3 (by exact hBy)).mono ?_
          rintro e w4 ⟨r3, l3, d3, rfl, hO3, hR3⟩
          obtain ⟨rfl, rfl⟩ := hR3.unique HRd.out
          have b4 := hO3.2.1
          have hl3 : (l.take (k / 7)).length = k / 7 := by rw [List.length_take, Hlen.out]; have := Hm.out; omega
          have hD3 := hO3.dops (by rw [hl3]; have := Hm.out; omega)
          obtain ⟨a3, c3, rfl⟩ := hO3.slice
          rw [hl3] at hD3 ⊢
          have R := below_then c (below_then b3 b4)
          have hq : k / 7 ≤ len := by have := Hm.out; omega
          have hqc : k / 7 ≤ ca := by have := hsh.1; omega
          have hca2 := hsh.2.1
          have hE := (hv.below R).take hq
          obtain ⟨q, Hq⟩ : ∃ q, Hid (k / 7 = q) := ⟨_, rfl⟩
          have hk7 : (k : Int) / 7 = (q : Int) := by have := Hq.out; omega
          have hk7t : Int.tdiv (k : Int) 7 = (q : Int) := by have := Hq.out; rw [Int.tdiv_eq_ediv_of_nonneg (by omega)]; omega
          rw [Hq.out] at hD3 hE hq hqc ⊢
          have hqm : q * 7 ≤ m := by have := Hq.out; omega
          clear hO3 hR3 hBy hl3 b2 b3 b4
          go_wp2_with fail
          refine (eqdops_same _ _ (l.take q) w4 (by exact hD3) (by exact hE)).mono ?_
          rintro e w5 ⟨rfl, b5⟩
          have R4 := below_then R b5
          clear hD3 hE
          go_wp2
          go_ret
          exact ⟨rfl, R4⟩
      · have h1' : (m : Int) ≤ (k : Int) := by omega
        clear hO'
        go_wp2
        go_ret
        exact ⟨rfl, below_then c b2⟩
  · go_wp2
    go_ret
    exact ⟨rfl, below_then c b⟩

end Go.Proofs.Yteohpkicbkhpjaa
