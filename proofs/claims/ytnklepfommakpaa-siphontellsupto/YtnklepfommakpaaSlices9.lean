/- slices.Compact over numbers of an own row, walked. -/
import Derived.Test.YtnklepfommakpaaSlices8
namespace Go.Proofs.Ytnklepfommakpaa
open Go.RowKit
set_option linter.unusedVariables false

theorem RowF.cut {B g : Nat} {w wr : World} {n : Nat} {f : Nat → Int} (h : RowF B g w wr n f) {zs : List Int} {a cap : Nat} (ha : a < n) (hz : zs.length = a) (hf : ∀ t, t < a → f t = nth zs t) (hn : n ≤ 17592186044416) (hc : n ≤ cap) (hc2 : cap ≤ 9223372036854775807) :
    (∀ ty c, (Builtin.clear_ #[25] ty #[.slice (some ⟨g, a, none⟩) (n - a) c]).run Try.prog wr = .ok (.tuple #[]) (wr.setCells g a (List.replicate (n - a) (.int .i64 0)))) ∧
    Ints (wr.setCells g a (List.replicate (n - a) (.int .i64 0))) (.slice (some ⟨g, 0, none⟩) a cap) zs ∧ Below B w (wr.setCells g a (List.replicate (n - a) (.int .i64 0))) := by
  have hsz : ∀ (vs : List Value) (o : Nat) (w : World), (w.setCells g o vs).heap.size = w.heap.size := by
    intro vs
    induction vs with
    | nil => intro o w; rfl
    | cons v vs ih => intro o w; simp only [World.setCells]; rw [ih]; simp [World.setCell]
  have hbl : ∀ (vs : List Value) (o : Nat) (w1 : World), Below B w w1 → Below B w (w1.setCells g o vs) := by
    intro vs
    induction vs with
    | nil => intro o w1 hb; exact hb
    | cons v vs ih => intro o w1 hb; simp only [World.setCells]; exact ih _ _ (hb.setCell h.base _)
  refine ⟨fun ty c => Lib.run_clear_slice wr _ _ ty _ Try.underlying25 zero_int rfl rfl g a _ _ (by omega) (fun j hj => by rw [h.cells (a + j) (by omega)]; rfl) (fun j hj => h.frozen (a + j) (by omega)), ?_, hbl _ _ _ h.below⟩
  refine ⟨_, _, _, rfl, hz, by omega, ⟨by omega, hc2, fun h => by cases h⟩, fun j hj => ⟨g, 0, rfl, by rw [hsz]; exact h.size, ?_⟩⟩
  rw [World.cell?_setCells_out _ _ _ _ _ (by intro _ _; left; simp; omega), Nat.zero_add, h.cells j (by omega), hf j (by omega)]

structure MoveD (B g : Nat) (w wr : World) (xs : List Int) (j : Nat) (f : Nat → Int) : Prop where
  row : RowF B g w wr xs.length f
  front : ∀ t, t < (ddTo xs j).length → f t = nth (ddTo xs j) t
  rest : ∀ t, j ≤ t + 1 → t < xs.length → f t = nth xs t
  less : (ddTo xs j).length < j
theorem MoveD.start {B g : Nat} {w wr : World} {xs : List Int} {k : Nat} (h : RowF B g w wr xs.length (nth xs)) (h0 : 0 < k) (hk : k < xs.length) (he : nth xs k = nth xs (k - 1)) (hn : ∀ j, 0 < j → j < k → nth xs j ≠ nth xs (j - 1)) :
    MoveD B g w wr xs (k + 1) (nth xs) ∧ (ddTo xs (k + 1)).length = k := by
  have e : ddTo xs (k + 1) = xs.take k := by rw [ddTo_no (by rintro (q | q); omega; exact q he), ddTo_take (by omega) hn]
  have el : (ddTo xs (k + 1)).length = k := by rw [e]; simp; omega
  refine ⟨⟨h, fun t ht => ?_, fun t _ _ => rfl, by omega⟩, el⟩
  rw [e]
  rw [el] at ht
  simp [nth, List.getD, ht]
theorem MoveD.to {B g : Nat} {w wr w2 : World} {xs : List Int} {j : Nat} {f : Nat → Int} (h : MoveD B g w wr xs j f) (hb : Below wr.heap.size wr w2) : MoveD B g w w2 xs j f := ⟨h.row.to hb, h.front, h.rest, h.less⟩
theorem MoveD.skip {B g : Nat} {w wr : World} {xs : List Int} {j : Nat} {f : Nat → Int} (h : MoveD B g w wr xs j f) (h0 : 0 < j) (he : nth xs j = nth xs (j - 1)) : MoveD B g w wr xs (j + 1) f := by
  have e := ddTo_no (xs := xs) (j := j) (by rintro (q | q); omega; exact q he)
  refine ⟨h.row, fun t ht => ?_, fun t ht => h.rest t (by omega), by rw [e]; have := h.less; omega⟩
  rw [e] at ht ⊢
  exact h.front t ht
theorem MoveD.put {B g : Nat} {w wr : World} {xs : List Int} {j : Nat} {f : Nat → Int} (h : MoveD B g w wr xs j f) (hj : j < xs.length) (hne : nth xs j ≠ nth xs (j - 1)) {a : Nat} (ha : (ddTo xs j).length = a) :
    ∃ f', MoveD B g w (wr.setCell ⟨g, a, none⟩ (.int .i64 (nth xs j))) xs (j + 1) f' := by
  have e := ddTo_yes (xs := xs) (j := j) (.inr hne)
  have hl := h.less
  refine ⟨_, h.row.put (k := a) (by omega) (nth xs j), fun t ht => ?_, fun t ht htl => ?_, by rw [e]; simp; omega⟩
  · rw [e] at ht ⊢
    simp only [List.length_append, List.length_singleton] at ht
    by_cases q : t = a
    · subst q
      rw [if_pos rfl]
      simp [nth, List.getD, ← ha]
    · rw [if_neg q, h.front t (by omega)]
      simp [nth, List.getD, List.getElem?_append_left (show t < (ddTo xs j).length by omega)]
  · rw [if_neg (by omega)]
    exact h.rest t (by omega) htl

set_option maxHeartbeats 2000000 in
theorem compact_own (B : Nat) (w wq : World) (v : Value) (xs : List Int) (hO : Own B w wq v xs) (hs : xs.Pairwise (· ≤ ·)) (hl : xs.length ≤ 17592186044416) :
    Calls Try.prog 34 #[v] wq fun e w' => ∃ r ys, e = .returned r ∧ Ints w' r ys ∧ ys.Pairwise (· < ·) ∧ (∀ t, t ∈ ys ↔ t ∈ xs) ∧ Below B w w' := by
  have hI := hO.ints hl
  have hbw := hO.2.1
  by_cases h2 : xs.length < 2
  · have hlt : xs.Pairwise (· < ·) := by
      match xs, h2 with
      | [], _ => exact List.Pairwise.nil
      | [a], _ => exact List.pairwise_singleton _ _
      | a :: b :: c, h => simp at h; omega
    obtain ⟨a, len, cap, rfl, hlen, _, _, _⟩ := id hI
    rw [hlen] at h2
    clear hO
    go_enter Try.func34, Try.ntmps34
    go_wp2
    go_ret
    first | exact ⟨_, xs, rfl, hI, hlt, fun t => Iff.rfl, hbw⟩ | exact ⟨_, rfl, xs, hI, hlt, fun t => Iff.rfl, hbw⟩
  obtain ⟨gb, cap, rfl, hcap, hc63, hR⟩ := hO.row (by omega)
  have HD : Hid ((ddTo xs xs.length).Pairwise (· < ·) ∧ ∀ t, t ∈ ddTo xs xs.length ↔ t ∈ xs) := ⟨(ddTo_ok hs (Nat.le_refl _)).1, ddTo_mem hs⟩
  have HT : Hid ((∀ j, 0 < j → j < xs.length → nth xs j ≠ nth xs (j - 1)) → ddTo xs xs.length = xs) := fun h => by show _ = _; rw [ddTo_take (Nat.le_refl _) h, List.take_of_length_le (Nat.le_refl _)]
  obtain ⟨len, Hlen⟩ : ∃ len, Hid (xs.length = len) := ⟨_, rfl⟩
  rw [Hlen.out] at hl h2 hcap hR hI HD HT ⊢
  clear hO hs
  go_enter Try.func34, Try.ntmps34
  go_wp2_with fail
  go_loopg [3] (len - 1) (fun g i wx => ∃ k : Nat, k + g = len ∧ 0 < k ∧ i = .int .i64 k ∧ Below wq.heap.size wq wx ∧ Hid (∀ j, 0 < j → j < k → nth xs j ≠ nth xs (j - 1)))
  case atStart => exact ⟨1, by omega, by omega, rfl, Below.refl _ _, fun j h1 h2 => by omega⟩
  case round =>
    obtain ⟨k, hkg, hk0, rfl, hb, Hn⟩ := hrel
    obtain ⟨G, hGk⟩ : ∃ G, G = gk := ⟨_, rfl⟩
    subst hGk
    by_cases hkn : k < len
    · have hR2 := hR.to hb
      have c0 := hR2.cells k hkn
      have c1 := hR2.cells (k - 1) (by omega)
      have hk1 : (k : Int) - 1 = ((k - 1 : Nat) : Int) := by omega
      have hkk : k - 1 < len := by omega
      have HS : Hid (nth xs k ≠ nth xs (k - 1) → ∀ j, 0 < j → j < k + 1 → nth xs j ≠ nth xs (j - 1)) := fun h j h1 h2 => by
        by_cases e : j = k
        · subst e; exact h
        · exact Hn.out j h1 (by omega)
      have HM : Hid (∀ w2, Below wq.heap.size wq w2 → nth xs k = nth xs (k - 1) → MoveD B gb w w2 xs (k + 1) (nth xs) ∧ (ddTo xs (k + 1)).length = k) := fun w2 b h => MoveD.start (by rw [Hlen.out]; exact hR.to b) hk0 (by rw [Hlen.out]; exact hkn) h Hn.out
      generalize nth xs k = x at *
      generalize nth xs (k - 1) = y at *
      cases he : (x == y)
      · have R2 : Hid _ := HS.out (by simpa using he)
        clear HS HM Hn hR2
        go_wp2_with fail
        go_quiet (fail)
        have R := below_then hb (below_drewN (Below.refl wr.heap.size wr) nq)
        clear hb c0 c1 hk1
        go_wp2
        go_roundg (G - 1)
        case measure => omega
        case rel => exact ⟨k + 1, by omega, by omega, by go_num, R, R2⟩
      · clear HS Hn hR2
        go_wp2_with fail
        go_quiet (fail)
        have R := below_then hb (below_drewN (Below.refl wr.heap.size wr) nq)
        obtain ⟨hM, hM2⟩ := HM.out _ R (by simpa using he)
        clear hb c0 c1 hk1 HM
        obtain ⟨wd, Hwd⟩ : ∃ wd, Hid (wr.drewN nq = wd) := ⟨_, rfl⟩
        rw [Hwd.out] at hM R ⊢
        clear Hwd
        have HM0 : Hid _ := hM
        have HM2 : Hid _ := hM2
        clear hM hM2
        go_wp2_with fail
        go_loopg [3, 5] (len - k - 1) (fun g kc k2 wx => ∃ (a q : Nat) (f : Nat → Int), k + q + g = len ∧ 0 < q ∧ kc = .int .i64 a ∧ k2 = .int .i64 q ∧ Hid ((ddTo xs (k + q)).length = a) ∧ MoveD B gb w wx xs (k + q) f)
        case atStart => exact ⟨k, 1, _, by omega, by omega, rfl, rfl, HM2, HM0.out⟩
        case round =>
          clear HM0 HM2
          obtain ⟨a, q, f, hqg, hq0, rfl, rfl, Ha, hM⟩ := hrel
          have hak := hM.less
          rw [Ha.out] at hak
          have hkn2 : k ≤ len := by omega
          by_cases hqn : q < len - k
          · have hql : k + q < xs.length := by have := Hlen.out; omega
            have c0 := hM.row.cells (k + q) hql
            have c1 := hM.row.cells (k + (q - 1)) (by omega)
            rw [hM.rest (k + q) (by omega) hql] at c0
            rw [hM.rest (k + (q - 1)) (by omega) (by omega)] at c1
            have hq1 : (q : Int) - 1 = ((q - 1 : Nat) : Int) := by omega
            have hqq : q - 1 < len - k := by omega
            have eq1 : k + q - 1 = k + (q - 1) := by omega
            have Hy : Hid (nth xs (k + q) ≠ nth xs (k + (q - 1)) → (ddTo xs (k + q + 1)).length = a + 1) := fun h => by have := Ha.out; rw [ddTo_yes (.inr (by rw [eq1]; exact h))]; simp; omega
            have Hno : Hid (nth xs (k + q) = nth xs (k + (q - 1)) → (ddTo xs (k + q + 1)).length = a) := fun h => by rw [ddTo_no (by rintro (r | r); omega; exact r (by rw [eq1]; exact h))]; exact Ha.out
            have HMs : Hid (∀ w2, Below wr.heap.size wr w2 → nth xs (k + q) = nth xs (k + (q - 1)) → MoveD B gb w w2 xs (k + q + 1) f) := fun w2 b h => (hM.to b).skip (by omega) (by rw [eq1]; exact h)
            have HMp : Hid (∀ w2, Below wr.heap.size wr w2 → nth xs (k + q) ≠ nth xs (k + (q - 1)) → ((∃ u, w2.cell? ⟨gb, a, none⟩ = some u) ∧ w2.frozen? ⟨gb, a, none⟩ = false ∧ w2.cell? ⟨gb, k + q, none⟩ = some (.int .i64 (nth xs (k + q)))) ∧ ∃ f', MoveD B gb w (w2.setCell ⟨gb, a, none⟩ (.int .i64 (nth xs (k + q)))) xs (k + q + 1) f') :=
              fun w2 b h => ⟨⟨⟨_, (hM.to b).row.cells a (by omega)⟩, (hM.to b).row.frozen a (by omega), by rw [(hM.to b).row.cells (k + q) hql, hM.rest (k + q) (by omega) hql]⟩, (hM.to b).put hql (by rw [eq1]; exact h) Ha.out⟩
            clear hM hql eq1
            generalize nth xs (k + q) = x2 at *
            generalize nth xs (k + (q - 1)) = y2 at *
            cases hne : (x2 != y2)
            · have he2 : x2 = y2 := by simpa using hne
              have R1 : Hid _ := Hno.out he2
              have HMs2 : Hid (∀ w2, Below wr.heap.size wr w2 → MoveD B gb w w2 xs (k + q + 1) f) := fun w2 b => HMs.out w2 b he2
              clear Hy Hno HMs HMp he2
              go_wp2_with fail
              go_quiet (fail)
              have hM2 := HMs2.out _ (below_drewN (Below.refl wr.heap.size wr) nq)
              clear HMs2 c0 c1 hq1
              go_wp2
              go_roundg (gk - 1)
              case measure => omega
              case rel => exact ⟨a, q + 1, f, by omega, by omega, rfl, by go_num, R1, hM2⟩
            · have he2 : x2 ≠ y2 := by simpa using hne
              have R1 : Hid _ := Hy.out he2
              have HMp2 : Hid _ := fun w2 b => HMp.out w2 b he2
              clear Hy Hno HMs HMp he2
              go_wp2_with fail
              go_quiet (fail)
              obtain ⟨⟨⟨u, e1⟩, e2, e3⟩, f', hM2⟩ := HMp2.out _ (below_drewN (Below.refl wr.heap.size wr) nq)
              clear HMp2 c0 c1 hq1
              go_wp2
              go_roundg (gk - 1)
              case measure => omega
              case rel => exact ⟨a + 1, q + 1, f', by omega, by omega, by go_num, by go_num, R1, hM2⟩
          · have ekq : k + q = len := by omega
            rw [ekq] at hM Ha hak
            obtain ⟨hcl, R1, R2⟩ := hM.row.cut (a := a) (zs := ddTo xs len) (cap := cap) (by have := Hlen.out; omega) Ha.out (by intro t ht; exact hM.front t (by have := Ha.out; omega)) (by rw [Hlen.out]; exact hl) (by rw [Hlen.out]; exact hcap) hc63
            rw [Hlen.out] at hcl R1 R2
            clear hM ekq
            go_wp2
            go_ret
            first | exact ⟨_, _, rfl, R1, HD.out.1, HD.out.2, R2⟩ | exact ⟨_, rfl, _, R1, HD.out.1, HD.out.2, R2⟩
    · have E : Hid (ddTo xs len = xs) := HT.out (by intro j h1 h2; exact Hn.out j h1 (by omega))
      have hI2 := hI.below hb
      have R := hbw.trans (hb.mono (by have := hR.base; have := hR.size; omega))
      have HD2 : Hid _ := HD.out
      rw [E.out] at HD2
      go_wp2
      go_ret
      exact ⟨_, rfl, xs, hI2, HD2.out.1, fun t => Iff.rfl, R⟩

end Go.Proofs.Ytnklepfommakpaa
