/- Package tongue as it landed: Has and Least. -/
import Derived.Test.YteoofibhpifmlaaDoorTongWord
namespace Go.Proofs.YteoofibhpifmlaaDoor
open Go.RowKit
set_option linter.unusedVariables false
set_option maxRecDepth 4000

theorem ints_at {w : World} {a : Option Addr} {len cap : Nat} {xs : List Int} (h : Ints w (.slice a len cap) xs) {k : Nat} (hk : k < len) : ∃ b off, a = some ⟨b, off, none⟩ ∧ b < w.heap.size ∧ w.cell? ⟨b, off + k, none⟩ = some (.int .i64 (nth xs k)) := by
  obtain ⟨a', len', cap', e, hl, hm, hs, hr⟩ := h
  injection e with e1 e2 e3
  subst e1 e2 e3
  exact hr k (by omega)

set_option maxRecDepth 100000 in
set_option maxHeartbeats 4000000 in
theorem tongue_has (v u : Value) (n : NetL) (i o : Int) (ws : List Int) (w : World) (hv : Net w v n) (hu : Ints w u ws) (hTab : Tab w) :
    Calls Tryd.prog 6 #[v, .int .i64 i, .int .i64 o, u] w fun e w' => ∃ b d, e = .returned (.tuple #[.bool b, .int .i64 d]) ∧ HasAns n i o ws b d ∧ Below w.heap.size w w' := by
  obtain ⟨tv, rfl, hT⟩ := hv
  have c : Below w.heap.size w (w.alloc (.cells #[.int .i64 n.places, tv] 24)) := below_new _ _
  have hbx := box2_new w (.int .i64 n.places) tv 24
  obtain ⟨w0, Hw0⟩ : ∃ w0, Hid (w.alloc (.cells #[.int .i64 n.places, tv] 24) = w0) := ⟨_, rfl⟩
  rw [Hw0.out] at c hbx
  have hv : Net w0 (.agg #[.int .i64 n.places, tv]) n := ⟨_, rfl, hT.below c⟩
  obtain ⟨x0, x1, x2⟩ := id hbx
  obtain ⟨au, lu, cu, rfl, hlu, hmu, hsu, hru⟩ := id hu
  have Hlu : Hid _ := hlu
  clear hlu
  go_enter Tryd.func6, Tryd.ntmps6
  go_upto_region 1 with fail
  rw [Hw0.out]
  clear Hw0
  go_wp2_with fail
  clear x0 x1 x2
  refine (heard_any _ n i o _ (by exact hv)).mono ?_
  rintro e w1 ⟨p, d, rfl, hH, b⟩
  have HE := heard_err hH
  replace c := below_then c b
  clear b hv hbx
  rcases hH with ⟨hd0, rfl, _⟩ | ⟨rfl, hS, s, hG, T, bn, lv, t, rfl, hTa, hTk⟩
  · have hdd : (d != 0) = true := by simpa using hd0
    go_wp2
    go_ret2
    exact ⟨false, d, rfl, ⟨HE, fun _ => rfl, fun h => absurd h hd0⟩, c⟩
  · have hW := graphL_whole hG
    have hN : s.marks.length ≤ 300 := by have := graphL_small n (startL n.places i) 300; rw [hG] at this; exact this
    have hwd : ∀ ws, WordI n i o ws ↔ ToEnd n s (startL n.places o) 0 ws := fun ws => hW.word
    have t0 : w1.cell? ⟨T, 0, none⟩ = some (.int .u64 (t.bg.at_ 0 : Nat)) := by simp [World.cell?, hTa.cells]
    have t1 : w1.cell? ⟨T, 1, none⟩ = some (.int .u64 (t.bg.at_ 1 : Nat)) := by simp [World.cell?, hTa.cells]
    have t2 : w1.cell? ⟨T, 2, none⟩ = some (.int .u64 (t.bg.at_ 2 : Nat)) := by simp [World.cell?, hTa.cells]
    have t3 : w1.cell? ⟨T, 3, none⟩ = some (.int .u64 (t.bg.at_ 3 : Nat)) := by simp [World.cell?, hTa.cells]
    have t4 : w1.cell? ⟨T, 4, none⟩ = some (.int .u64 (t.bg.at_ 4 : Nat)) := by simp [World.cell?, hTa.cells]
    have bn2 := below_new w1 (.cells (setC t.bg) 48)
    have hA2 := setAt_new w1 t.bg
    obtain ⟨w2, Hw2⟩ : ∃ w2, Hid (w1.alloc (.cells (setC t.bg) 48) = w2) := ⟨_, rfl⟩
    rw [Hw2.out] at bn2 hA2
    have e2 : w1.alloc (.cells #[.int .u64 (t.bg.at_ 0 : Nat), .int .u64 (t.bg.at_ 1 : Nat), .int .u64 (t.bg.at_ 2 : Nat), .int .u64 (t.bg.at_ 3 : Nat), .int .u64 (t.bg.at_ 4 : Nat)] 48) = w2 := Hw2.out
    have He2 : Hid _ := e2
    clear e2 Hw2
    have HtTa : Hid _ := hTa
    go_upto_region 5 with fail
    rw [He2.out]
    clear He2 t0 t1 t2 t3 t4
    go_wp2_with fail
    have Hst : Hid (AtW n s ([] : List Int) t.bg) := hTk.start
    go_loopg [31] lu (fun g x wr => ∃ (k : Nat) (q : SetL), k + g = lu ∧ x = .int .i64 (k : Int) ∧ SetAt wr w1.heap.size q ∧ AtW n s (ws.take k) q ∧ Below w1.heap.size w1 wr)
    case atStart => exact ⟨0, t.bg, by omega, rfl, hA2, by simpa using Hst.out, bn2⟩
    case round =>
      obtain ⟨k, q, hkg, rfl, hA, hAt, hB⟩ := hrel
      have hTr := HtTa.out.below hB
      have hTb := (hTab.below c).below hB
      have hqn : ∀ m, m < 320 → q.has m = true → m < t.n := fun m h1 h2 => by rw [hTk.size]; exact hAt.lt hW m h1 h2
      obtain ⟨_, q0, q1, q2, q3, q4⟩ := hA.c
      simp only [Nat.zero_add] at q1 q2 q3 q4
      by_cases hk : k < lu
      · have hk' : decide ((k : Int) < (lu : Int)) = true := by rw [decide_eq_true_eq]; omega
        obtain ⟨b1, o1, rfl, hb1, ec⟩ := ints_at ((hu.below c).below hB) hk
        go_wp2_with fail
        refine (tbehind_any T bn lv t q _ wr hTr hTb hqn).mono ?_
        rintro e w3 ⟨q', rfl, hBe, b3⟩
        have hlk : k < ws.length := by have := Hlu.out; omega
        have hAt' : AtW n s (ws.take (k + 1)) q' := by
          have := hAt.behind hW hN hS.ok hTk hBe
          rw [List.take_succ_eq_append_getElem hlk]
          have e : ws[k] = nth ws k := by simp [nth, List.getD, hlk]
          rw [e]; exact this
        have hA3 := hA.below b3
        obtain ⟨_, r0, r1, r2, r3, r4⟩ := hA3.c
        simp only [Nat.zero_add] at r1 r2 r3 r4
        have f0 := hA3.frozen 0
        have f1 := hA3.frozen 1
        have f2 := hA3.frozen 2
        have f3 := hA3.frozen 3
        have f4 := hA3.frozen 4
        obtain ⟨w4, Hw4, hA4, hB4, ho4, hz4⟩ := hA3.store q'
        have hB04 : Below w1.heap.size w1 w4 := (hB.trans (b3.mono hB.size)).trans hB4
        clear q0 q1 q2 q3 q4 hA ec hA3
        go_upto_region 9 with fail
        rw [Hw4.out]
        clear r0 r1 r2 r3 r4 f0 f1 f2 f3 f4 Hw4 ho4 hz4
        obtain ⟨_, r0, r1, r2, r3, r4⟩ := hA4.c
        simp only [Nat.zero_add] at r1 r2 r3 r4
        go_wp2_with fail
        refine (empty_any q' w4).mono ?_
        rintro e w5 ⟨rfl, b5⟩
        have hA5 := hA4.below b5
        have hB5 := hB04.trans (b5.mono hB04.size)
        cases hem : emptyS q'
        · clear r0 r1 r2 r3 r4 hA4
          go_wp2
          go_roundg (gk - 1)
          case measure => omega
          case rel => exact ⟨k + 1, q', by omega, by go_num, hA5, hAt', hB5⟩
        · have R : ¬ WordI n i o ws := by
            rw [hwd]
            have := hAt'.none (E := startL n.places o) (r := ws.drop (k + 1)) hW hN hem
            rwa [List.take_append_drop] at this
          clear r0 r1 r2 r3 r4 hA4
          go_wp2
          go_ret2
          exact ⟨false, 0, rfl, ⟨HE, fun _ => rfl, fun _ => ⟨fun h => (by cases h), fun h => absurd h R⟩⟩, c.trans (hB5.mono c.size)⟩
      · obtain rfl : k = lu := by omega
        clear hk
        have hkk : decide ((k : Int) < (k : Int)) = false := by simp
        have e : ws.take k = ws := List.take_of_length_le (by have := Hlu.out; omega)
        rw [e] at hAt
        go_wp2_with fail
        refine (mayEnd_any T bn lv t q wr hTr hTb hqn).mono ?_
        rintro e w3 ⟨b, rfl, hEnd, b3⟩
        have R := hAt.ends hW hN hTk hEnd
        go_wp2
        go_ret2
        exact ⟨b, 0, rfl, ⟨HE, fun h => absurd rfl h, fun _ => by rw [hwd]; exact R⟩, (c.trans (hB.mono c.size)).trans (b3.mono (Nat.le_trans c.size hB.size))⟩

set_option maxRecDepth 100000 in
set_option maxHeartbeats 4000000 in
theorem tongue_least (v : Value) (n : NetL) (i o : Int) (w : World) (hv : Net w v n) :
    Calls Tryd.prog 8 #[v, .int .i64 i, .int .i64 o] w fun e w' => ∃ k d, e = .returned (.tuple #[.int .i64 k, .int .i64 d]) ∧ LeastAns n i o k d ∧ Below w.heap.size w w' := by
  obtain ⟨tv, rfl, hT⟩ := hv
  have c : Below w.heap.size w (w.alloc (.cells #[.int .i64 n.places, tv] 24)) := below_new _ _
  have hbx := box2_new w (.int .i64 n.places) tv 24
  obtain ⟨w0, Hw0⟩ : ∃ w0, Hid (w.alloc (.cells #[.int .i64 n.places, tv] 24) = w0) := ⟨_, rfl⟩
  rw [Hw0.out] at c hbx
  have hv : Net w0 (.agg #[.int .i64 n.places, tv]) n := ⟨_, rfl, hT.below c⟩
  obtain ⟨x0, x1, x2⟩ := id hbx
  go_enter Tryd.func8, Tryd.ntmps8
  go_upto_region 1 with fail
  rw [Hw0.out]
  clear Hw0
  go_wp2_with fail
  clear x0 x1 x2
  refine (heard_any _ n i o _ (by exact hv)).mono ?_
  rintro e w1 ⟨p, d, rfl, hH, b⟩
  have HE := heard_err hH
  replace c := below_then c b
  clear b hv hbx
  rcases hH with ⟨hd0, rfl, _⟩ | ⟨rfl, hS, s, hG, T, bn, lv, t, rfl, hTa, hTk⟩
  · have hdd : (d != 0) = true := by simpa using hd0
    go_wp2
    go_ret2
    exact ⟨0, d, rfl, ⟨d, HE, fun _ => ⟨rfl, rfl⟩, fun h => absurd h hd0⟩, c⟩
  · have hW := graphL_whole hG
    have hwd : ∀ ws, WordI n i o ws ↔ ToEnd n s (startL n.places o) 0 ws := fun ws => hW.word
    have h0n := hW.here.1
    have t6 := hTa.c6
    obtain ⟨b, off, cap, rfl, hlt, hcl⟩ := hTa.least_at (m := 0) (by rw [hTk.size]; exact h0n)
    have hn0 : 0 < t.n := by rw [hTk.size]; exact h0n
    have hn3 := hTa.small
    obtain ⟨k, Hk⟩ : ∃ k, Hid (nth t.least 0 = k) := ⟨_, rfl⟩
    rw [Hk.out] at hcl
    rw [Nat.add_zero] at hcl
    have hLA := hTk.least
    by_cases h300 : k = 300
    · subst h300
      have R : LeastAns n i o 0 3 := ⟨0, HE, fun h => absurd rfl h, fun _ => .inl ⟨rfl, rfl, fun ws hws => by
        have := (hLA.least 0 h0n ws ((hwd ws).1 hws)).2
        have := Hk.out
        omega⟩⟩
      clear hLA hTa
      go_wp2
      go_ret2
      exact ⟨0, 3, rfl, R, c⟩
    · have hne : (k == 300) = false := by simpa using h300
      have R : LeastAns n i o k 0 := by
        have hp := hLA.pos 0 h0n
        have hk := Hk.out
        obtain ⟨ws, h1, h2⟩ := hLA.sound 0 h0n (by omega)
        exact ⟨0, HE, fun h => absurd rfl h, fun _ => .inr ⟨rfl, ws, (hwd ws).2 h1, by omega, fun ws' h' => by have := (hLA.least 0 h0n ws' ((hwd ws').1 h')).1; omega⟩⟩
      clear hLA hTa h300
      go_wp2
      go_ret2
      exact ⟨k, 0, rfl, R, c⟩

end Go.Proofs.YteoofibhpifmlaaDoor
