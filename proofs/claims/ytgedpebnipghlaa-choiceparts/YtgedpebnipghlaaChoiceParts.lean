/- The law ChoiceParts, walked. -/
import Derived.Test.YtgedpebnipghlaaChoiceSame
import Derived.Test.YtgedpebnipghlaaListsFun2
import Derived.Test.YtgedpebnipghlaaSiphSort
import Derived.Test.YtgedpebnipghlaaBox1
import Derived.Laws.EntriesVeiled
import Derived.BigQuiet
namespace Go.Proofs.Ytgedpebnipghlaa
open Go.RowKit
set_option linter.unusedVariables false
set_option linter.unusedSimpArgs false
set_option maxRecDepth 4000

/-- Laid together and sorted, the parts are all transitions. -/
theorem parts_sorted {n : NetL} (hn : netOk n = true) {ls : List (List Int)} (hp : PartsOk n ls) : ls.flatten.mergeSort (fun x y => decide (x ≤ y)) = rangeL n.trans.length := by
  have hd : ls.flatten.Pairwise (· ≠ ·) := by
    rw [List.pairwise_flatten]
    refine ⟨fun l hl => List.Pairwise.imp_of_mem (fun _ _ h e => by omega) (hp.up l hl), ?_⟩
    have := hp.first
    refine List.Pairwise.imp_of_mem (fun {a b} ha hb hab x hx y hy e => ?_) this
    subst e
    obtain ⟨x0, x1, x2⟩ := hp.mem a ha x hx
    obtain ⟨_, _, y2⟩ := hp.mem b hb x hy
    have : a = b := up_unique (hp.up a ha) (hp.up b hb) fun u => by
      constructor
      · intro hu
        obtain ⟨u0, u1, _⟩ := hp.mem a ha u hu
        rw [← Int.toNat_of_nonneg u0] at hu ⊢
        exact (y2 _ u1).2 ((x2 _ u1).1 hu)
      · intro hu
        obtain ⟨u0, u1, _⟩ := hp.mem b hb u hu
        rw [← Int.toNat_of_nonneg u0] at hu ⊢
        exact (x2 _ u1).2 ((y2 _ u1).1 hu)
    rw [this] at hab; omega
  have h1 := List.pairwise_mergeSort (le := fun x y : Int => decide (x ≤ y)) (by intro a b c; simp; omega) (by intro a b; simp; omega) ls.flatten
  have h2 : (ls.flatten.mergeSort fun x y => decide (x ≤ y)).Pairwise (· ≠ ·) := (List.mergeSort_perm ls.flatten _).symm.pairwise hd (fun h => Ne.symm h)
  have h3 : (ls.flatten.mergeSort fun x y => decide (x ≤ y)).Pairwise (· < ·) := by
    have := h1.and h2
    exact List.Pairwise.imp_of_mem (fun _ _ ⟨a, b⟩ => by simp at a; omega) this
  refine up_unique h3 (range_sorted _) fun t => ?_
  rw [List.mem_mergeSort, List.mem_flatten, mem_range]
  constructor
  · rintro ⟨l, hl, ht⟩
    obtain ⟨t0, t1, _⟩ := hp.mem l hl t ht
    omega
  · rintro ⟨t0, t1⟩
    obtain ⟨l, hl, h⟩ := hp.all hn t.toNat (by omega)
    exact ⟨l, hl, by rw [Int.toNat_of_nonneg t0] at h; exact h⟩

def bothIn (i j : Int) (l : List Int) : Bool := hasL l i && hasL l j
theorem both_led {n : NetL} (hn : netOk n = true) {ls : List (List Int)} (hp : PartsOk n ls) {i j : Nat} (hi : i < n.trans.length) (hj : j < n.trans.length) (h : Led n i j) : ls.any (bothIn i j) = true := by
  obtain ⟨l, hl, hm⟩ := hp.all hn i hi
  obtain ⟨_, _, h2⟩ := hp.mem l hl i hm
  have hm2 : (j : Int) ∈ l := (h2 j hj).2 (by simpa using h)
  refine List.any_eq_true.2 ⟨l, hl, ?_⟩
  unfold bothIn hasL
  rw [List.contains_iff_mem.2 hm, List.contains_iff_mem.2 hm2]; rfl
theorem range_nth {N k : Nat} (h : k < N) : nth (rangeL N) k = (k : Int) := by
  unfold nth rangeL
  rw [List.getD_eq_getElem?_getD, List.getElem?_map, List.getElem?_range h]; rfl
theorem range_length (N : Nat) : (rangeL N).length = N := by simp [rangeL]

set_option maxHeartbeats 1000000 in
theorem both_asks (w0 : World) (bi bj : Nat) (i j : Int) (hi : Box1 w0 bi (.int .i64 i)) (hj : Box1 w0 bj (.int .i64 j)) : AsksLs2 w0 21 (.pointer (some ⟨bi, 0, none⟩)) (.pointer (some ⟨bj, 0, none⟩)) (bothIn i j) := by
  intro v x w hw hv
  obtain ⟨x0, x1⟩ := hi.below hw
  obtain ⟨y0, y1⟩ := hj.below hw
  have HB : Hid (bothIn i j x = (hasL x i && hasL x j)) := rfl
  go_enter Try.func21, Try.ntmps21
  go_wp2_with fail
  refine (contains_any _ x i w (by exact hv)).mono ?_
  rintro e w1 ⟨rfl, rfl⟩
  cases h1 : hasL x i
  · go_wp2
    go_ret
    exact ⟨ret_bool (by rw [HB.out, h1]; rfl), Below.refl _ _⟩
  · go_wp2_with fail
    refine (contains_any _ x j w1 (by exact hv)).mono ?_
    rintro e w1 ⟨rfl, rfl⟩
    go_wp2
    go_ret
    exact ⟨ret_bool (by rw [HB.out, h1]; simp), Below.refl _ _⟩

set_option maxHeartbeats 8000000 in
theorem choiceParts_walk (v : Value) (n : NetL) (i j : Int) (w : World) (hv : Net w v n) :
    Calls Try.prog 6 #[v, .int .i64 i, .int .i64 j] w fun e w' => e = .returned (.bool true) ∧ Below w.heap.size w w' := by
  obtain ⟨tv, rfl, hT⟩ := hv
  have c := below_new w (.cells #[.int .i64 n.places, tv] 24)
  have hbx := box2_new w (.int .i64 n.places) tv 24
  obtain ⟨wa, Hwa⟩ : ∃ wa, Hid (w.alloc (.cells #[.int .i64 n.places, tv] 24) = wa) := ⟨_, rfl⟩
  have ea : wa.heap.size = w.heap.size + 1 := by rw [← Hwa.out]; simp
  rw [Hwa.out] at c hbx
  have ca := below_new wa (.cells #[.int .i64 i] 3)
  have hbi := box1_new wa (.int .i64 i) 3
  obtain ⟨wb, Hwb⟩ : ∃ wb, Hid (wa.alloc (.cells #[.int .i64 i] 3) = wb) := ⟨_, rfl⟩
  have eb : wb.heap.size = w.heap.size + 1 + 1 := by rw [← Hwb.out]; simp [ea]
  rw [Hwb.out] at ca hbi
  have cb := below_new wb (.cells #[.int .i64 j] 3)
  have hbj := box1_new wb (.int .i64 j) 3
  obtain ⟨w0, Hw0⟩ : ∃ w0, Hid (wb.alloc (.cells #[.int .i64 j] 3) = w0) := ⟨_, rfl⟩
  rw [Hw0.out] at cb hbj
  rw [ea] at hbi
  rw [eb] at hbj
  replace hbi := hbi.below cb
  replace hbx := hbx.below (below_then ca cb)
  have hv : Net w0 (.agg #[.int .i64 n.places, tv]) n := ⟨_, rfl, hT.below (below_then c (below_then ca cb))⟩
  replace c := below_then c (below_then ca cb)
  have Hall : Hid (((w.alloc (.cells #[.int .i64 n.places, tv] 24)).alloc (.cells #[.int .i64 i] 3)).alloc (.cells #[.int .i64 j] 3) = w0) := by show _ = _; rw [Hwa.out, Hwb.out, Hw0.out]
  clear hT ca cb Hwa Hwb Hw0 ea eb
  go_enter Try.func6, Try.ntmps6
  go_upto_region 1 with fail
  rw [Hall.out]
  clear Hall
  go_wp2_with fail
  refine (alive14_any w0).mono ?_
  rintro e w1 ⟨rfl, b1⟩
  replace c := below_then c b1
  replace hv := hv.below b1
  replace hbx := hbx.below b1
  replace hbi := hbi.below b1
  replace hbj := hbj.below b1
  clear b1
  obtain ⟨x0, x1, x2⟩ := id hbx
  go_wp2_with fail
  refine (choice_clusters _ n w1 (by exact hv)).mono ?_
  rintro e w2 ⟨q, ls, rfl, hp, hL, b1⟩
  replace c := below_then c b1
  replace hv := hv.below b1
  replace hbx := hbx.below b1
  replace hbi := hbi.below b1
  replace hbj := hbj.below b1
  clear b1 x0 x1 x2
  obtain ⟨x0, x1, x2⟩ := id hbx
  go_wp2_with fail
  refine (net_wrong _ n w2 (by exact hv)).mono ?_
  rintro e w3 ⟨rfl, b1⟩
  replace c := below_then c b1
  replace hv := hv.below b1
  replace hbx := hbx.below b1
  replace hbi := hbi.below b1
  replace hbj := hbj.below b1
  replace hL := hL.below b1
  clear b1 x0 x1 x2
  cases hn : netOk n
  · rw [wrongL_not hn]
    obtain rfl := hp.bad hn
    obtain ⟨a, cap, rfl, _⟩ := hL.slice
    clear hn hp hL
    go_wp2
    go_ret
    exact ⟨rfl, c⟩
  · rw [wrongL_ok hn]
    have Hs : Hid _ := parts_sorted hn hp
    have HB : Hid (∀ i j : Nat, i < n.trans.length → j < n.trans.length → Led n i j → ls.any (bothIn i j) = true) := fun i j hi hj h => both_led hn hp hi hj h
    obtain ⟨P, hP, hP16⟩ : ∃ P : Nat, n.places = (P : Int) ∧ P ≤ 16 := by
      unfold netOk headOk at hn
      simp only [Bool.and_eq_true, decide_eq_true_eq] at hn
      exact ⟨n.places.toNat, by omega, by omega⟩
    have HPr : Hid (∀ k, k < n.trans.length → (tranAt n.trans k).pre.length = P) := fun k hk => by have := (tran_length hn hk).1; omega
    have h24 : n.trans.length ≤ 24 := by
      unfold netOk headOk at hn
      simp only [Bool.and_eq_true, decide_eq_true_eq] at hn
      omega
    have hfl : ls.flatten.length ≤ 24 := by
      have := congrArg List.length Hs.out
      rw [List.length_mergeSort, range_length] at this
      omega
    obtain ⟨qa, qc, rfl, _⟩ := hL.slice
    have hT := hv
    rw [hP] at hbx hv
    obtain ⟨tv', e, hT⟩ := hT
    obtain rfl : tv = tv' := by injection e with e; simp at e; exact e
    obtain ⟨ta, len, tc, rfl, hlen, hmx, hsh, _⟩ := id hT
    have Hlen : Hid (n.trans.length = len) := hlen
    have hcap : len ≤ tc := hsh.1
    have hcap2 : tc ≤ 9223372036854775807 := hsh.2.1
    rw [hlen] at h24 Hs HB HPr
    clear hn hp e hsh hlen hP hv
    go_wp2_with fail
    refine (concat_own _ ls w3 (by exact hL) (by omega)).mono ?_
    rintro e w4 ⟨r, rfl, hO⟩
    have hb4 := hO.2.1
    go_wp2_with fail
    refine (sort_own _ _ _ _ _ hO (by omega)).mono ?_
    rintro e w5 ⟨rfl, hO5⟩
    rw [Hs.out] at hO5
    have hb5 := hO5.2.1
    replace c := below_then c hb5
    replace hT := hT.below hb5
    replace hbx := hbx.below hb5
    replace hbi := hbi.below hb5
    replace hbj := hbj.below hb5
    replace hL := hL.below hb5
    have hI := hO5.ints (by rw [range_length]; omega)
    obtain ⟨ra, rl, rc, rfl, hrl, _⟩ := id hI
    obtain rfl : rl = len := by rw [← hrl, range_length]
    clear hO hO5 hb4 hb5 hrl hfl Hs
    go_wp2_with fail
    go_loopg [29] rl (fun gk k' wr => ∃ k : Nat, k + gk = rl ∧ k' = .int .i64 (k : Int) ∧ wr = w5)
    case atStart => exact ⟨0, by omega, rfl, rfl⟩
    case round =>
      obtain ⟨k, hkg, rfl, rfl⟩ := hrel
      by_cases hk : k < rl
      · obtain ⟨bl, ol, rfl, _, ck⟩ := ints_atL hI hk
        rw [range_nth hk] at ck
        go_wp2
        go_roundg (gk - 1)
        case measure => omega
        case rel => exact ⟨k + 1, by omega, by go_num, rfl⟩
      · obtain rfl : k = rl := by omega
        obtain ⟨x0, x1, x2⟩ := id hbx
        obtain ⟨y0, y1⟩ := id hbi
        obtain ⟨z0, z1⟩ := id hbj
        by_cases hi0 : i < 0
        · clear hT hL hI HB HPr
          go_wp2
          go_ret
          exact ⟨rfl, c⟩
        · obtain ⟨i, rfl⟩ := Int.eq_ofNat_of_zero_le (show 0 ≤ i by omega)
          have hi0' : decide ((i : Int) < 0) = false := decide_eq_false hi0
          by_cases hj0 : j < 0
          · clear hT hL hI HB HPr hi0
            go_wp2
            go_ret
            exact ⟨rfl, c⟩
          · obtain ⟨j, rfl⟩ := Int.eq_ofNat_of_zero_le (show 0 ≤ j by omega)
            have hj0' : decide ((j : Int) < 0) = false := decide_eq_false hj0
            by_cases hin : i < k
            · by_cases hjn : j < k
              · have HBi : Hid _ := HB.out i j hin hjn
                obtain ⟨T, HT⟩ : ∃ T, Hid (ls.any (bothIn (i : Int) (j : Int)) = T) := ⟨_, rfl⟩
                have HSh : Hid (Shares n i j → T = true) := fun h => by rw [← HT.out]; exact HBi.out ((Led.here n i).step (by rw [Hlen.out]; exact hin) (by rw [Hlen.out]; exact hjn) h)
                have HEq : Hid (i = j → T = true) := fun h => by rw [← HT.out]; subst h; exact HBi.out (Led.here n i)
                have hgi : decide ((k : Int) ≤ (i : Int)) = false := decide_eq_false (by omega)
                have hgj : decide ((k : Int) ≤ (j : Int)) = false := decide_eq_false (by omega)
                have HA : Hid _ := both_asks wr _ _ i j hbi hbj
                clear hi0 hj0 HBi HB hI
                go_wp2_with fail
                refine (containslists2_any wr _ _ _ (bothIn i j) HA.out Try.call21 _ ls wr (Below.refl _ _) (by exact hL)).mono ?_
                rintro e w6 ⟨rfl, b6⟩
                rw [HT.out]
                replace c := below_then c b6
                replace hT := hT.below b6
                replace hbx := hbx.below b6
                replace hbi := hbi.below b6
                replace hbj := hbj.below b6
                clear x0 x1 x2 y0 y1 z0 z1 hL b6 HT HA
                obtain ⟨x0, x1, x2⟩ := id hbx
                go_wp2_with fail
                clear x0 x1 x2
                go_loopg [75] P (fun gk p' wr => ∃ p : Nat, p + gk = P ∧ p' = .int .i64 (p : Int) ∧ wr = w6)
                case atStart => exact ⟨0, by omega, rfl, rfl⟩
                case round =>
                  obtain ⟨p, hpg, rfl, rfl⟩ := hrel
                  obtain ⟨x0, x1, x2⟩ := id hbx
                  obtain ⟨y0, y1⟩ := id hbi
                  obtain ⟨z0, z1⟩ := id hbj
                  by_cases hpn : p < P
                  · obtain ⟨bt, ot, p1, q1, rfl, hlt, h0, h1, h2, i1, _⟩ := hT.at hin
                    obtain ⟨bt', ot', p2, q2, e, _, g0, g1, g2, i2, _⟩ := hT.at hjn
                    injection e with e
                    injection e with e1 e2
                    subst e1 e2
                    obtain ⟨a1, l1, c1, rfl, hl1, _, _, _⟩ := id i1
                    obtain ⟨a2, l2, c2, rfl, hl2, _, _, _⟩ := id i2
                    obtain rfl : l1 = P := by rw [← hl1]; exact HPr.out i hin
                    obtain rfl : l2 = l1 := by rw [← hl2]; exact HPr.out j hjn
                    obtain ⟨b1, o1, rfl, _, cX⟩ := ints_atL i1 hpn
                    obtain ⟨b2, o2, rfl, _, cY⟩ := ints_atL i2 hpn
                    have HS2 : Hid (0 < nth (tranAt n.trans i).pre p → 0 < nth (tranAt n.trans j).pre p → T = true) := fun h1 h2 => HSh.out ⟨p, h1, h2⟩
                    clear i1 i2 hl1 hl2 h0 h2 g0 g2 HSh
                    generalize nth (tranAt n.trans i).pre p = x at *
                    generalize nth (tranAt n.trans j).pre p = y at *
                    by_cases hx : 0 < x
                    · by_cases hy : 0 < y
                      · have e := HS2.out hx hy
                        subst e
                        clear HS2 HEq
                        go_wp2
                        go_roundg (gk - 1)
                        case measure => omega
                        case rel => exact ⟨p + 1, by omega, by go_num, rfl⟩
                      · have hy' : decide (0 < y) = false := decide_eq_false hy
                        clear HS2 HEq hy
                        go_wp2
                        go_roundg (gk - 1)
                        case measure => omega
                        case rel => exact ⟨p + 1, by omega, by go_num, rfl⟩
                    · have hx' : decide (0 < x) = false := decide_eq_false hx
                      clear HS2 HEq hx
                      go_wp2
                      go_roundg (gk - 1)
                      case measure => omega
                      case rel => exact ⟨p + 1, by omega, by go_num, rfl⟩
                  · by_cases hij : i = j
                    · have e := HEq.out hij
                      subst e hij
                      clear HSh HEq hT
                      go_wp2
                      go_ret
                      exact ⟨rfl, c⟩
                    · have hij' : ((i : Int) != (j : Int)) = true := by
                        rw [bne_iff_ne]; omega
                      clear HSh HEq hT hij
                      go_wp2
                      go_ret
                      exact ⟨rfl, c⟩
              · have hgi : decide ((k : Int) ≤ (i : Int)) = false := decide_eq_false (by omega)
                have hgj : decide ((k : Int) ≤ (j : Int)) = true := decide_eq_true (by omega)
                clear hT hL hI HB HPr hi0 hj0
                go_wp2
                go_ret
                exact ⟨rfl, c⟩
            · have hgi : decide ((k : Int) ≤ (i : Int)) = true := decide_eq_true (by omega)
              clear hT hL hI HB HPr hi0 hj0
              go_wp2
              go_ret
              exact ⟨rfl, c⟩

end Go.Proofs.Ytgedpebnipghlaa
