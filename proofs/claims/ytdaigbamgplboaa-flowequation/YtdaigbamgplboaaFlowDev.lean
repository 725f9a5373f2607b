/- Package flow, as it landed. -/
import Derived.Test.YtdaigbamgplboaaFlow4
import Derived.Test.YtdaigbamgplboaaNetDev
import Derived.BigRegion
namespace Go.Proofs.Ytdaigbamgplboaa
open Go.RowKit
set_option linter.unusedVariables false

/-- A row of n ints that the call itself made, at block B, that holds f; nothing older has turned. -/
structure RowAt (B : Nat) (w wr : World) (n : Nat) (f : Nat → Int) : Prop where
  cells : ∀ j, j < n → wr.cell? ⟨B, j, none⟩ = some (.int .i64 (f j))
  frozen : ∀ j, j < n → wr.frozen? ⟨B, j, none⟩ = false
  below : Below B w wr
  size : B < wr.heap.size

theorem RowAt.put {B : Nat} {w wr : World} {n k : Nat} {f g : Nat → Int} (h : RowAt B w wr n f) (hk : k < n) {x : Int} (hx : g k = x) (hg : ∀ j, j < n → j ≠ k → g j = f j) :
    RowAt B w (wr.setCell ⟨B, k, none⟩ (.int .i64 x)) n g := by
  refine ⟨fun j hj => ?_, fun j hj => by rw [World.frozen?_setCell]; exact h.frozen j hj, h.below.setCell (Nat.le_refl _) _, by simpa [World.setCell] using h.size⟩
  by_cases e : j = k
  · subst e
    rw [World.cell?_setCell_same _ _ _ (h.cells j hj), hx]
  · rw [World.cell?_setCell_other _ _ _ _ (by intro q; apply e; injection q with _ q2; exact q2.symm), h.cells j hj, hg j hj e]

theorem RowAt.same {B : Nat} {w wr : World} {n : Nat} {f g : Nat → Int} (h : RowAt B w wr n f) (hg : ∀ j, j < n → g j = f j) : RowAt B w wr n g :=
  ⟨fun j hj => by rw [h.cells j hj, hg j hj], h.frozen, h.below, h.size⟩

theorem RowAt.to {B : Nat} {w wr w2 : World} {n : Nat} {f : Nat → Int} (h : RowAt B w wr n f) (hb : Below wr.heap.size wr w2) : RowAt B w w2 n f :=
  ⟨fun j hj => by rw [hb.cell (p := ⟨B, j, none⟩) h.size]; exact h.cells j hj, fun j hj => by rw [hb.frozen (p := ⟨B, j, none⟩) h.size]; exact h.frozen j hj, h.below.trans (hb.mono (Nat.le_of_lt h.size)), Nat.lt_of_lt_of_le h.size hb.size⟩

theorem RowAt.ints {B : Nat} {w wr : World} {n : Nat} {f : Nat → Int} (h : RowAt B w wr n f) {zs : List Int} (hl : zs.length = n) (hz : ∀ j, j < n → nth zs j = f j) (hn : n ≤ 17592186044416) {cap : Nat} (hc : n ≤ cap) (hc2 : cap ≤ 9223372036854775807) :
    Ints wr (.slice (some ⟨B, 0, none⟩) n cap) zs :=
  ⟨_, _, _, rfl, hl, hn, ⟨hc, hc2, fun h => by cases h⟩, fun j hj => ⟨B, 0, rfl, h.size, by rw [Nat.zero_add, h.cells j (by omega), hz j (by omega)]⟩⟩

theorem rowAt_new {w w1 : World} {n : Nat} (hb : Below w.heap.size w w1) (hs : w.heap.size < w1.heap.size) (hc : ∀ j, j < n → w1.cell? ⟨w.heap.size, j, none⟩ = some (.int .i64 0) ∧ w1.frozen? ⟨w.heap.size, j, none⟩ = false)
    {f : Nat → Int} (hf : ∀ j, j < n → f j = 0) : RowAt w.heap.size w w1 n f :=
  ⟨fun j hj => by rw [hf j hj]; exact (hc j hj).1, fun j hj => (hc j hj).2, hb, hs⟩

theorem box3_set {w : World} {b : Nat} {x y z u : Value} {p : Addr} (h : Box3 w b x y z) (hp : p.block ≠ b) : Box3 (w.setCell p u) b x y z := by
  have ne : ∀ j, (⟨b, j, none⟩ : Addr) ≠ p := fun j e => hp (by rw [← e])
  refine ⟨by simpa [World.setCell] using h.1, ?_, ?_, ?_⟩
  · rw [World.cell?_setCell_other _ _ _ _ (Ne.symm (ne 0))]; exact h.2.1
  · rw [World.cell?_setCell_other _ _ _ _ (Ne.symm (ne 1))]; exact h.2.2.1
  · rw [World.cell?_setCell_other _ _ _ _ (Ne.symm (ne 2))]; exact h.2.2.2

/-- All of the first k are from l to m. -/
def inTo (xs : List Int) (l m : Int) (k : Nat) : Bool := (xs.take k).all fun x => decide (l ≤ x) && decide (x ≤ m)
def inL (xs : List Int) (l m : Int) : Bool := xs.all fun x => decide (l ≤ x) && decide (x ≤ m)
theorem inTo_succ (xs : List Int) (l m : Int) (k : Nat) (h : k < xs.length) : inTo xs l m (k + 1) = (inTo xs l m k && (decide (l ≤ nth xs k) && decide (nth xs k ≤ m))) := by
  unfold inTo
  rw [List.take_succ_eq_append_getElem h, List.all_append]
  simp [nth, List.getD, List.getElem?_eq_getElem h]
theorem inTo_all (xs : List Int) (l m : Int) (k : Nat) (h : xs.length ≤ k) : inTo xs l m k = inL xs l m := by
  unfold inTo inL; rw [List.take_of_length_le h]
theorem inL_no {xs : List Int} {l m : Int} {k : Nat} (h : k < xs.length) (hk : ¬ (l ≤ nth xs k ∧ nth xs k ≤ m)) : inL xs l m = false := by
  unfold inL
  rw [List.all_eq_false]
  refine ⟨xs[k], List.getElem_mem _, ?_⟩
  have e : nth xs k = xs[k] := by simp [nth, List.getD, List.getElem?_eq_getElem h]
  rw [← e]
  simp only [Bool.and_eq_true, decide_eq_true_eq]
  exact hk

set_option maxHeartbeats 400000 in
theorem fwithin_any (v : Value) (xs : List Int) (l m : Int) (w : World) (hv : Ints w v xs) :
    Calls Try.prog 26 #[v, .int .i64 l, .int .i64 m] w fun e w' => e = .returned (.bool (inL xs l m)) ∧ w' = w := by
  obtain ⟨a, len, cap, rfl, hlen, hmx, hsh, hr⟩ := hv
  go_enter Try.func26, Try.ntmps26
  go_wp2_with fail
  go_loop [11] (fun i => ∃ j : Nat, j ≤ len ∧ i = .int .i64 j ∧ Hid (inTo xs l m j = true)) (fun i => len - (intOf i).toNat)
  case atStart => exact ⟨0, Nat.zero_le _, rfl, rfl⟩
  case round =>
    obtain ⟨j, hj, rfl, hw⟩ := hrel
    by_cases hjn : j < len
    · obtain ⟨b, off, rfl, hb, hc⟩ := hr j (by omega)
      have Hst : Hid _ := inTo_succ xs l m j (by omega)
      have Hno : Hid (¬ (l ≤ nth xs j ∧ nth xs j ≤ m) → inL xs l m = false) := inL_no (by omega)
      clear hr
      by_cases q1 : l ≤ nth xs j
      · by_cases q2 : nth xs j ≤ m
        · have F2 : Hid (inTo xs l m (j + 1) = true) := by show _ = _; rw [Hst.out, hw.out, decide_eq_true q1, decide_eq_true q2]; rfl
          clear Hno Hst
          go_wp2
          go_round
          case rel => exact ⟨j + 1, by omega, by go_num, F2⟩
          case measure => simp [intOf]; omega
        · have F2 : Hid _ := Hno.out (by omega)
          clear Hno Hst
          go_wp2
          go_ret
          exact ⟨ret_bool F2.out.symm, rfl⟩
      · have F2 : Hid _ := Hno.out (by omega)
        clear Hno Hst
        go_wp2
        go_ret
        exact ⟨ret_bool F2.out.symm, rfl⟩
    · have F2 : Hid (inL xs l m = true) := by show _ = _; rw [← inTo_all xs l m j (by omega)]; exact hw.out
      go_wp2
      go_ret
      exact ⟨ret_bool F2.out.symm, rfl⟩

theorem count_zero (t : Int) : (([] : List Int).count t : Nat) = 0 := rfl

set_option maxHeartbeats 1000000 in
theorem flow_count (v u : Value) (n : NetL) (seq : List Int) (w : World) (hv : Net w v n) (hu : Ints w u seq) :
    Calls Try.prog 12 #[v, u] w fun e w' => ∃ r, e = .returned r ∧ Ints w' r (countL n seq) ∧ Below w.heap.size w w' := by
  obtain ⟨tv, rfl, hT⟩ := hv
  have b1 := below_new w (.cells #[.int .i64 n.places, tv] 24)
  have hbx := box2_new w (.int .i64 n.places) tv 24
  replace hu := hu.below b1
  obtain ⟨a, len, cap, rfl, hlen, hmx, hsh, _⟩ := hT
  have HN : Hid (countL n seq = countTo seq len) := by show _ = _; rw [countL, hlen]
  obtain ⟨w0, Hw0⟩ : ∃ w0, Hid (w.alloc (.cells #[.int .i64 n.places, .slice a len cap] 24) = w0) := ⟨_, rfl⟩
  rw [Hw0.out] at b1 hbx hu
  obtain ⟨x0, x1, x2⟩ := hbx
  obtain ⟨w1, hmk, hb1, hs1, hc1⟩ := make_ints w0 len (by omega)
  obtain ⟨sa, ls, sc, rfl, hls, hms, _, hrs0⟩ := id hu
  clear hrs0
  have HR0 : Hid (RowAt w0.heap.size w0 w1 len (fun t => (((seq.take 0).count (t : Int) : Nat) : Int))) := rowAt_new hb1 hs1 hc1 fun j _ => by simp
  go_enter Try.func12, Try.ntmps12
  go_upto_region 1 with fail
  rw [Hw0.out]
  clear Hw0
  go_wp2_with fail
  clear x0 x1 x2 hmk hb1 hs1 hc1
  go_loopw [14] (fun i wr => ∃ k : Nat, k ≤ ls ∧ i = .int .i64 k ∧ RowAt w0.heap.size w0 wr len (fun t => (((seq.take k).count (t : Int) : Nat) : Int))) (fun i _ => ls - (intOf i).toNat)
  case atStart => exact ⟨0, Nat.zero_le _, rfl, HR0.out⟩
  case round =>
    clear HR0
    obtain ⟨k, hk, rfl, hF⟩ := hrel
    by_cases hkn : k < ls
    · obtain ⟨_, _, _, e, _, _, _, hrs⟩ := hu.below hF.below
      injection e with e1 e2 e3
      subst e1 e2 e3
      obtain ⟨b, off, rfl, hb, hc⟩ := hrs k (by omega)
      have Hs : Hid (∀ x, (seq.take (k + 1)).count x = (seq.take k).count x + (if nth seq k = x then 1 else 0)) := fun x => count_take_succ seq x k (by omega)
      clear hrs
      by_cases q1 : 0 ≤ nth seq k
      · obtain ⟨t, ht⟩ := Int.eq_ofNat_of_zero_le q1
        have Hs : Hid (∀ x : Nat, (((seq.take (k + 1)).count (x : Int) : Nat) : Int) = ((seq.take k).count (x : Int) : Nat) + (if x = t then 1 else 0)) := by
          intro x
          have := Hs.out (x : Int)
          rw [ht] at this
          rw [this]
          by_cases hx : x = t
          · subst hx; simp
          · rw [if_neg hx, if_neg (by omega)]; simp
        rw [ht] at hc
        clear ht q1
        by_cases q2 : t < len
        · have hcell := hF.cells t q2
          have hfz := hF.frozen t q2
          have hle : (seq.take k).count (t : Int) ≤ 17592186044416 := Nat.le_trans List.count_le_length (by simp; omega)
          have hsz := hF.size
          have R := hF.put (g := fun t => (((seq.take (k + 1)).count (t : Int) : Nat) : Int)) q2 (x := ((seq.take k).count (t : Int) : Nat) + 1) (by rw [Hs.out t, if_pos rfl]) (fun j _ hj => by rw [Hs.out j, if_neg hj]; omega)
          clear hF Hs
          generalize (seq.take k).count (t : Int) = c at *
          go_wp2
          go_roundw
          case rel => exact ⟨k + 1, by omega, by go_num, R⟩
          case measure => simp [intOf]; omega
        · have R := hF.same (g := fun t => (((seq.take (k + 1)).count (t : Int) : Nat) : Int)) (fun j hj => by rw [Hs.out j, if_neg (by omega)]; omega)
          clear hF Hs
          go_wp2
          go_roundw
          case rel => exact ⟨k + 1, by omega, by go_num, R⟩
          case measure => simp [intOf]; omega
      · have R := hF.same (g := fun t => (((seq.take (k + 1)).count (t : Int) : Nat) : Int)) (fun j hj => by rw [Hs.out j, if_neg (by omega)]; rfl)
        clear hF Hs
        go_wp2
        go_roundw
        case rel => exact ⟨k + 1, by omega, by go_num, R⟩
        case measure => simp [intOf]; omega
    · obtain rfl : k = ls := by omega
      have R := hF.ints (zs := countTo seq len) (countTo_length _ _) (fun j hj => by rw [countTo_nth _ _ _ hj, List.take_of_length_le (by omega)]) (by omega) (cap := len) (by omega) (by omega)
      have R2 := below_then b1 hF.below
      clear hF
      go_wp2
      go_ret
      exact ⟨_, rfl, by rw [HN.out]; exact R, R2⟩

theorem wrap64_eq (a : Int) : wrap64 a = IntKind.i64.wrap a := (Go.IntWalk.i64_left a).symm

/-- What the first k weigh. -/
def weighTo2 (ys ms : List Int) (k : Nat) : Int := IntKind.i64.wrap (sumTo (fun j => nth ys j * nth ms j) k)
theorem weighTo2_succ (ys ms : List Int) (k : Nat) : weighTo2 ys ms (k + 1) = IntKind.i64.wrap (weighTo2 ys ms k + IntKind.i64.wrap (nth ys k * nth ms k)) := by
  unfold weighTo2; rw [wrap_add]; rfl
theorem weighTo2_all (ys ms : List Int) (k : Nat) (h : min ys.length ms.length ≤ k) : weighTo2 ys ms k = weighL ys ms := by
  unfold weighTo2 weighL; rw [dotL_sum ys ms k h]

set_option maxHeartbeats 1000000 in
theorem flow_weigh (v u : Value) (ys ms : List Int) (w : World) (hv : Ints w v ys) (hu : Ints w u ms) :
    Calls Try.prog 14 #[v, u] w fun e w' => e = .returned (.int .i64 (weighL ys ms)) ∧ Below w.heap.size w w' := by
  obtain ⟨a, la, ca, rfl, hla, hma, hsa, hra⟩ := id hv
  obtain ⟨b, lb, cb, rfl, hlb, hmb, hsb, hrb⟩ := id hu
  obtain ⟨n, Hn⟩ : ∃ n : Nat, min ys.length ms.length = n := ⟨_, rfl⟩
  have HA : Hid (weighTo2 ys ms n = weighL ys ms) := weighTo2_all ys ms n (by omega)
  have Hs : Hid _ := weighTo2_succ ys ms
  have hn1 : n ≤ la := by omega
  have hn2 : n ≤ lb := by omega
  have HL : Hid (ys.length = la ∧ ms.length = lb) := ⟨hla, hlb⟩
  clear hra hrb
  rcases Nat.lt_trichotomy la lb with hlt | hlt | hlt
  case' inl => obtain rfl : n = la := by omega
  case' inr.inl => subst hlt; obtain rfl : n = la := by omega
  case' inr.inr => obtain rfl : n = lb := by omega
  all_goals
    clear Hn hla hlb
    go_enter Try.func14, Try.ntmps14
    go_wp2_with fail
    go_loopw [5, 12] (fun o i wr => ∃ k : Nat, k ≤ n ∧ i = .int .i64 k ∧ o = .int .i64 (weighTo2 ys ms k) ∧ Below w.heap.size w wr) (fun _ i _ => n - (intOf i).toNat)
    case atStart => exact ⟨0, Nat.zero_le _, rfl, rfl, Below.refl _ _⟩
    case round =>
      obtain ⟨k, hk, rfl, rfl, hb⟩ := hrel
      by_cases hkn : k < n
      · obtain ⟨_, _, _, e, _, _, _, hra⟩ := hv.below hb
        injection e with e1 e2 e3
        subst e1 e2 e3
        obtain ⟨_, _, _, e, _, _, _, hrb⟩ := hu.below hb
        injection e with e1 e2 e3
        subst e1 e2 e3
        obtain ⟨b1, o1, rfl, hb1, hc1⟩ := hra k (by have := HL.out; omega)
        obtain ⟨b2, o2, rfl, hb2, hc2⟩ := hrb k (by have := HL.out; omega)
        have F : Hid _ := Hs.out k
        generalize weighTo2 ys ms k = d at *
        clear hra hrb
        go_wp2_with fail
        go_quiet (fail)
        have R := below_then hb (below_drewN (Below.refl wr.heap.size wr) nq)
        clear hb hc1 hc2
        go_wp2
        go_roundw
        case rel => exact ⟨k + 1, by omega, by go_num, by rw [F.out]; simp only [wrap64_eq], R⟩
        case measure => simp [intOf]; omega
      · obtain rfl : k = n := by omega
        rw [HA.out]
        go_wp2
        go_ret
        exact ⟨rfl, hb⟩

theorem effOk_in (n : NetL) (c : List Int) : effOk n c = (netOk n && (((c.length : Int) == (n.trans.length : Int)) && inL c 0 1000000)) := rfl
theorem EffOk.term {n : NetL} {c : List Int} (h : EffOk n c) (k p : Nat) :
    -9000000 ≤ nth c k * (nth (tranAt n.trans k).post p - nth (tranAt n.trans k).pre p) ∧ nth c k * (nth (tranAt n.trans k).post p - nth (tranAt n.trans k).pre p) ≤ 9000000 := by
  obtain ⟨⟨a1, a2⟩, a3, a4⟩ := h.prods k p
  rw [Int.mul_sub]; omega

set_option maxHeartbeats 2000000 in
theorem flow_effect (v u : Value) (n : NetL) (c : List Int) (w : World) (hv : Net w v n) (hu : Ints w u c) :
    Calls Try.prog 9 #[v, u] w fun e w' => Gives w (effectL n c) e w' := by
  obtain ⟨tv, rfl, hT⟩ := hv
  have b1 := below_new w (.cells #[.int .i64 n.places, tv] 24)
  have hbx := box2_new w (.int .i64 n.places) tv 24
  replace hu := hu.below b1
  have hv : Net _ _ n := ⟨tv, rfl, hT.below b1⟩
  replace hT := hT.below b1
  go_enter Try.func9, Try.ntmps9
  go_wp2_with fail
  refine (wrong_any _ n _ (by exact hv)).mono ?_
  rintro e w1 ⟨rfl, b2⟩
  replace hu := hu.below b2
  replace hT := hT.below b2
  replace hbx := hbx.below b2
  replace b1 := below_then b1 b2
  clear b2 hv
  obtain ⟨x0, x1, x2⟩ := id hbx
  obtain ⟨a, len, cap, rfl, hlen, hmx, hsh, _⟩ := id hT
  obtain ⟨ac, lc, cc, rfl, hlc, hmc, _, _⟩ := id hu
  cases h1 : netOk n
  · rw [wrongL_not h1]
    have E : Hid (effectL n c = ([], 2)) := by show _ = _; simp [effectL, effOk, h1]
    clear h1
    go_wp2
    go_ret2
    exact gives_of E.out (Ints.nil _) b1
  rw [wrongL_ok h1]
  have HE : Hid _ := effOk_in n c
  cases h2 : ((lc : Int) == (len : Int))
  · have E : Hid (effectL n c = ([], 2)) := by show _ = _; rw [effectL, HE.out, hlc, hlen, h2, h1]; rfl
    have h2' : ((lc : Int) != (len : Int)) = true := by simpa using h2
    clear h1 h2
    go_wp2
    go_ret2
    exact gives_of E.out (Ints.nil _) b1
  have h2' : ((lc : Int) != (len : Int)) = false := by simpa using h2
  go_wp2_with fail
  refine (fwithin_any _ c _ _ _ (by exact hu)).mono ?_
  rintro e w2 ⟨rfl, rfl⟩
  cases h3 : inL c 0 1000000
  · have E : Hid (effectL n c = ([], 2)) := by show _ = _; rw [effectL, HE.out, hlc, hlen, h3, h2, h1]; rfl
    clear h1 h2 h3
    go_wp2
    go_ret2
    exact gives_of E.out (Ints.nil _) b1
  have hok : effOk n c = true := by rw [HE.out, hlc, hlen, h3, h2, h1]; rfl
  have HO : Hid _ := effOk_of hok
  obtain ⟨P, hP⟩ := Int.eq_ofNat_of_zero_le HO.out.places0
  have hP16 : P ≤ 16 := by have := HO.out.places1; omega
  have hl24 : len ≤ 24 := by have := HO.out.trans; omega
  have hcl : lc = len := by have := HO.out.len; omega
  have E : Hid (effectL n c = (effList n c P, 0)) := by show _ = _; rw [effectL, hok, hP]; rfl
  have HPr : Hid (n.places = (P : Int)) := hP
  clear h1 h2 h3 hok h2' HE
  rw [hP] at hbx x1 ⊢
  clear hP
  obtain ⟨wm, hmk, hbm, hsm, hcm⟩ := make_ints w2 P (by omega)
  have HR0 : Hid (RowAt w2.heap.size w2 wm P (fun p => effTo n c p 0)) := rowAt_new hbm hsm hcm fun j _ => rfl
  have y1 := (hbm.cell (p := ⟨w.heap.size, 0, none⟩) x0).trans x1
  have y2 := (hbm.cell (p := ⟨w.heap.size, 1, none⟩) x0).trans x2
  go_wp2_with fail
  clear hmk hbm hsm hcm x0 x1 x2 y1 y2
  go_loopg [32] len (fun g i wr => ∃ k : Nat, k + g = len ∧ i = .int .i64 k ∧ RowAt w2.heap.size w2 wr P (fun p => effTo n c p k))
  case atStart => exact ⟨0, by omega, rfl, HR0.out⟩
  case round =>
    clear HR0
    obtain ⟨k, hkg, rfl, hF⟩ := hrel
    obtain ⟨G, hGk⟩ : ∃ G, G = gk := ⟨_, rfl⟩
    obtain ⟨W, hW⟩ : ∃ W, W = wr := ⟨_, rfl⟩
    subst hGk hW
    by_cases hkn : k < len
    · obtain ⟨b, off, c1, c2, rfl, hblt, h0, h1, h2, i1, i2⟩ := hT.at hkn
      obtain ⟨a1, l1, p1, rfl, hl1, _, _, hr1⟩ := i1
      obtain ⟨a2, l2, p2, rfl, hl2, _, _, hr2⟩ := i2
      have hP1 : l1 = P := by have := HO.out.pre k (by omega); have := HPr.out; omega
      have hP2 : l2 = P := by have := HO.out.post k (by omega); have := HPr.out; omega
      subst hP1
      obtain rfl : l2 = l1 := hP2
      obtain ⟨_, _, _, e, _, _, _, hrc⟩ := id hu
      injection e with e1 e2 e3
      subst e1 e2 e3
      obtain ⟨bc, oc, rfl, hbc, hcc⟩ := hrc k (by omega)
      replace h0 := (hF.below.cell (p := ⟨b, off + k * 3, none⟩) hblt).trans h0
      replace h1 := (hF.below.cell (p := ⟨b, off + k * 3 + 1, none⟩) hblt).trans h1
      replace h2 := (hF.below.cell (p := ⟨b, off + k * 3 + 2, none⟩) hblt).trans h2
      have hbn := below_new W (.cells #[.int .i64 (tranAt n.trans k).label, .slice a1 l2 p1, .slice a2 l2 p2] 44)
      have hbx3 := box3_new W (.int .i64 (tranAt n.trans k).label) (.slice a1 l2 p1) (.slice a2 l2 p2) 44
      have hF2 := hF.to hbn
      have hBW := hF.size
      have HT : Hid (∀ q, -9000000 ≤ nth c k * (nth (tranAt n.trans k).post q - nth (tranAt n.trans k).pre q) ∧ nth c k * (nth (tranAt n.trans k).post q - nth (tranAt n.trans k).pre q) ≤ 9000000) := fun q => HO.out.term k q
      have HB : Hid (∀ q, -216000000 ≤ effTo n c q k ∧ effTo n c q k ≤ 216000000) := fun q => by have := HO.out.bound q k; omega
      have HS : Hid (∀ q, effTo n c q (k + 1) = effTo n c q k + nth c k * (nth (tranAt n.trans k).post q - nth (tranAt n.trans k).pre q)) := fun q => by rw [effTo_succ, Int.mul_sub]
      have HW1 : Hid (∀ q, 0 ≤ nth (tranAt n.trans k).pre q ∧ nth (tranAt n.trans k).pre q ≤ 9) := fun q => HO.out.wpre k q
      have HW2 : Hid (∀ q, 0 ≤ nth (tranAt n.trans k).post q ∧ nth (tranAt n.trans k).post q ≤ 9) := fun q => HO.out.wpost k q
      obtain ⟨hn1, hn2⟩ := HO.out.cnt k
      generalize tranAt n.trans k = t at *
      obtain ⟨wt, Hwt⟩ : ∃ wt, Hid (W.alloc (.cells #[.int .i64 t.label, .slice a1 l2 p1, .slice a2 l2 p2] 44) = wt) := ⟨_, rfl⟩
      rw [Hwt.out] at hbn hbx3 hF2
      go_upto_region 7 with fail
      rw [Hwt.out]
      clear Hwt h0 h1 h2 hrc hF
      have HR1 : Hid (RowAt w2.heap.size w2 wt l2 (fun p => if p < 0 then effTo n c p (k + 1) else effTo n c p k)) := hF2.same fun j hj => by rw [if_neg (by omega)]
      go_wp2_with fail
      go_loopg [39] l2 (fun g i ws => ∃ q : Nat, q + g = l2 ∧ i = .int .i64 q ∧ RowAt w2.heap.size w2 ws l2 (fun p => if p < q then effTo n c p (k + 1) else effTo n c p k) ∧ Box3 ws W.heap.size (.int .i64 t.label) (.slice a1 l2 p1) (.slice a2 l2 p2))
      case atStart => exact ⟨0, by omega, rfl, HR1.out, hbx3⟩
      case round =>
        clear hF2 HR1 hbx3
        obtain ⟨q, hqg, rfl, hF, hbx3⟩ := hrel
        by_cases hqn : q < l2
        · obtain ⟨b1', o1, rfl, hb1, hc1⟩ := hr1 q (by omega)
          obtain ⟨b2', o2, rfl, hb2, hc2⟩ := hr2 q (by omega)
          replace hc1 := (hF.below.cell (p := ⟨b1', o1 + q, none⟩) hb1).trans hc1
          replace hc2 := (hF.below.cell (p := ⟨b2', o2 + q, none⟩) hb2).trans hc2
          replace hcc := (hF.below.cell (p := ⟨bc, oc + k, none⟩) hbc).trans hcc
          have hcell := hF.cells q hqn
          rw [if_neg (by omega)] at hcell
          have hfz := hF.frozen q hqn
          have hsz := hF.size
          obtain ⟨m1, m2⟩ := HT.out q
          obtain ⟨d1, d2⟩ := HB.out q
          obtain ⟨v1, v2⟩ := HW1.out q
          obtain ⟨v3, v4⟩ := HW2.out q
          have Hs : Hid _ := HS.out q
          obtain ⟨z0, z1, z2, z3⟩ := id hbx3
          generalize effTo n c q k = d at *
          go_wp2_with fail
          have R0 : RowAt w2.heap.size w2 (wr.setCell ⟨w2.heap.size, q, none⟩ (.int .i64 (d + nth c k * (nth t.post q - nth t.pre q)))) l2 (fun p => if p < q + 1 then effTo n c p (k + 1) else effTo n c p k) :=
            hF.put hqn (by rw [if_pos (by omega)]; exact Hs.out) fun j hj hne => by
              by_cases hjq : j < q
              · rw [if_pos hjq, if_pos (by omega)]
              · rw [if_neg hjq, if_neg (by omega)]
          have R : RowAt w2.heap.size w2 (wr.setCell ⟨w2.heap.size, q, none⟩ (.int .i64 (d + nth c k * (nth t.post q - nth t.pre q)))).drew l2 (fun p => if p < q + 1 then effTo n c p (k + 1) else effTo n c p k) := R0.to (Below.refl _ _).drew
          have R3 : Box3 (wr.setCell ⟨w2.heap.size, q, none⟩ (.int .i64 (d + nth c k * (nth t.post q - nth t.pre q)))).drew W.heap.size (.int .i64 t.label) (.slice (some ⟨b1', o1, none⟩) l2 p1) (.slice (some ⟨b2', o2, none⟩) l2 p2) :=
            Box3.below (w := wr.setCell ⟨w2.heap.size, q, none⟩ (.int .i64 (d + nth c k * (nth t.post q - nth t.pre q)))) (box3_set hbx3 (show w2.heap.size ≠ W.heap.size by omega)) (Below.refl _ _).drew
          clear hF R0 hbx3
          go_region
          clear hcell hfz hcc hc1 hc2 z0 z1 z2 z3
          go_wp2
          go_roundg (gk - 1)
          case measure => omega
          case rel => exact ⟨q + 1, by omega, by go_num, R, R3⟩
        · obtain rfl : q = l2 := by omega
          have R := hF.same (g := fun p => effTo n c p (k + 1)) fun j hj => by rw [if_pos hj]
          clear hF hbx3
          go_wp2
          go_roundg (G - 1)
          case measure => omega
          case rel => exact ⟨k + 1, by omega, by go_num, R⟩
    · obtain rfl : k = len := by omega
      have R := hF.ints (zs := effList n c P) (effList_length _ _ _) (fun j hj => by rw [effList_nth _ _ _ _ hj, hlen]) (by omega) (cap := P) (by omega) (by omega)
      have R2 := below_then b1 hF.below
      clear hF
      go_wp2
      go_ret2
      exact gives_of E.out R R2

theorem within_in (y : List Int) (p : Int) : withinL y p (-1000000) = (((y.length : Int) == p) && inL y (-1000000) 1000000) := rfl
theorem weigh_pair {n : NetL} {y : List Int} (hn : netOk n = true) (hw : withinL y n.places (-1000000) = true) {t : TranL} (ht : tranOk n.places t = true) :
    (weighL y t.pre == weighL y t.post) = (dotL y t.pre == dotL y t.post) := by
  obtain ⟨_, _, w1, w2⟩ := tranOk_parts ht
  have h1 := kept_bound hn hw w1
  have h2 := kept_bound hn hw w2
  unfold weighL
  rw [wrap_id (by omega) (by omega), wrap_id (by omega) (by omega)]

theorem kept_no {n : NetL} {y : List Int} {k : Nat} (hk : k < n.trans.length) (h : (dotL y (tranAt n.trans k).pre == dotL y (tranAt n.trans k).post) = false) : keptL n y = false := by
  unfold keptL
  rw [Bool.and_eq_false_iff]
  right
  rw [List.all_eq_false]
  refine ⟨n.trans[k], List.getElem_mem _, ?_⟩
  have e : tranAt n.trans k = n.trans[k] := by simp [tranAt, List.getD, List.getElem?_eq_getElem hk]
  rw [← e, h]; simp

set_option maxHeartbeats 1000000 in
theorem flow_kept (v u : Value) (n : NetL) (y : List Int) (w : World) (hv : Net w v n) (hu : Ints w u y) :
    Calls Try.prog 16 #[v, u] w fun e w' => e = .returned (.bool (keptL n y)) ∧ Below w.heap.size w w' := by
  obtain ⟨tv, rfl, hT⟩ := hv
  have b1 := below_new w (.cells #[.int .i64 n.places, tv] 24)
  have hbx := box2_new w (.int .i64 n.places) tv 24
  replace hu := hu.below b1
  have hv : Net _ _ n := ⟨tv, rfl, hT.below b1⟩
  replace hT := hT.below b1
  go_enter Try.func16, Try.ntmps16
  go_wp2_with fail
  refine (wrong_any _ n _ (by exact hv)).mono ?_
  rintro e w1 ⟨rfl, b2⟩
  replace hu := hu.below b2
  replace hT := hT.below b2
  replace hbx := hbx.below b2
  replace b1 := below_then b1 b2
  clear b2 hv
  obtain ⟨x0, x1, x2⟩ := id hbx
  obtain ⟨a, len, cap, rfl, hlen, hmx, hsh, _⟩ := id hT
  obtain ⟨ac, lc, cc, rfl, hlc, hmc, _, _⟩ := id hu
  cases h1 : netOk n
  · rw [wrongL_not h1]
    have E : Hid (keptL n y = false) := by show _ = _; simp [keptL, h1]
    clear h1
    go_wp2
    go_ret
    exact ⟨ret_bool E.out.symm, b1⟩
  rw [wrongL_ok h1]
  have HE : Hid _ := within_in y n.places
  cases h2 : ((lc : Int) == n.places)
  · have E : Hid (keptL n y = false) := by show _ = _; rw [keptL, HE.out, hlc, h2]; simp
    have h2' : ((lc : Int) != n.places) = true := by simpa using h2
    clear h1 h2
    go_wp2
    go_ret
    exact ⟨ret_bool E.out.symm, b1⟩
  have h2' : ((lc : Int) != n.places) = false := by simpa using h2
  go_wp2_with fail
  refine (fwithin_any _ y _ _ _ (by exact hu)).mono ?_
  rintro e w2 ⟨rfl, rfl⟩
  cases h3 : inL y (-1000000) 1000000
  · have E : Hid (keptL n y = false) := by show _ = _; rw [keptL, HE.out, hlc, h3]; simp
    clear h1 h2 h3
    go_wp2
    go_ret
    exact ⟨ret_bool E.out.symm, b1⟩
  have hw : withinL y n.places (-1000000) = true := by rw [HE.out, hlc, h2, h3]; rfl
  have H0 : Hid (keptTo n y 0 = true) := by show _ = _; simp [keptTo, h1, hw]
  have Hst : Hid _ := keptTo_succ n y
  have Hall : Hid _ := keptTo_all n y
  have HP : Hid (∀ k, k < len → (weighL y (tranAt n.trans k).pre == weighL y (tranAt n.trans k).post) = (dotL y (tranAt n.trans k).pre == dotL y (tranAt n.trans k).post)) := fun k hk => weigh_pair h1 hw (net_tran h1 (by omega))
  have HN : Hid (∀ k, k < len → (dotL y (tranAt n.trans k).pre == dotL y (tranAt n.trans k).post) = false → keptL n y = false) := fun k hk h => kept_no (by omega) h
  clear h1 h2 h3 hw HE
  go_wp2_with fail
  clear x0 x1 x2 h2'
  go_loopg [25] len (fun g i wr => ∃ k : Nat, k + g = len ∧ i = .int .i64 k ∧ Hid (keptTo n y k = true) ∧ Below w2.heap.size w2 wr)
  case atStart => exact ⟨0, by omega, rfl, H0, Below.refl _ _⟩
  case round =>
    clear H0
    obtain ⟨k, hkg, rfl, hK, hb⟩ := hrel
    by_cases hkn : k < len
    · obtain ⟨b, off, c1, c2, rfl, hblt, h0, h1, h2, i1, i2⟩ := (hT.below hb).at hkn
      obtain ⟨a1, l1, p1, rfl, _, _, _, _⟩ := id i1
      obtain ⟨a2, l2, p2, rfl, _, _, _, _⟩ := id i2
      have Hs : Hid _ := Hst.out k (by omega)
      have Hp : Hid _ := HP.out k hkn
      have Hn : Hid _ := HN.out k hkn
      have hbn := below_new wr (.cells #[.int .i64 (tranAt n.trans k).label, .slice a1 l1 p1, .slice a2 l2 p2] 44)
      have hbx3 := box3_new wr (.int .i64 (tranAt n.trans k).label) (.slice a1 l1 p1) (.slice a2 l2 p2) 44
      have hu2 := (hu.below hb).below hbn
      replace i1 := i1.below hbn
      replace i2 := i2.below hbn
      generalize tranAt n.trans k = t at *
      clear Hst Hall HP HN
      obtain ⟨wt, Hwt⟩ : ∃ wt, Hid (wr.alloc (.cells #[.int .i64 t.label, .slice a1 l1 p1, .slice a2 l2 p2] 44) = wt) := ⟨_, rfl⟩
      rw [Hwt.out] at hbn hbx3 hu2 i1 i2
      go_upto_region 6 with fail
      rw [Hwt.out]
      clear Hwt h0 h1 h2
      obtain ⟨z0, z1, z2, z3⟩ := id hbx3
      go_region_held3 (fun w' => w'.cell? ⟨wr.heap.size, 1, none⟩ = some (.slice a1 l1 p1) ∧ w'.cell? ⟨wr.heap.size, 2, none⟩ = some (.slice a2 l2 p2))
        (go_keep)
        (first
          | (go_at_call_of 14 (Value.slice a1 l1 p1); refine (flow_weigh _ _ y t.pre _ ?_ ?_).mono ?_; exact hu2.drewN 1; exact i1.drewN 1; rintro e wA ⟨rfl, qA⟩; have qA := below_then (below_drewN (Below.refl wt.heap.size wt) 1) qA; obtain ⟨u0, u1, u2, u3⟩ := hbx3.below qA)
          | (go_at_call_of 14 (Value.slice a2 l2 p2); refine (flow_weigh _ _ y t.post _ ?_ ?_).mono ?_; exact hu2.below qA; exact i2.below qA; rintro e wB ⟨rfl, qB⟩; have qB := below_then qA qB; obtain ⟨s0, s1, s2, s3⟩ := hbx3.below qB))
      have R := below_then hb (below_then hbn qB)
      clear hbx3 z0 z1 z2 z3 u0 u1 u2 u3 s0 s1 s2 s3 qA qB hbn hu2 i1 i2
      cases hd : (weighL y t.pre == weighL y t.post)
      · have hd' : (weighL y t.pre != weighL y t.post) = true := by rw [bne, hd]; rfl
        have E : Hid (keptL n y = false) := Hn.out (by rw [← Hp.out]; exact hd)
        clear Hp Hn Hs hd hK hb
        generalize weighL y t.pre = d1 at *
        generalize weighL y t.post = d2 at *
        go_wp2
        go_ret
        exact ⟨ret_bool E.out.symm, below_then b1 R⟩
      · have hd' : (weighL y t.pre != weighL y t.post) = false := by rw [bne, hd]; rfl
        have E : Hid (keptTo n y (k + 1) = true) := by show _ = _; rw [Hs.out, hK.out, ← Hp.out, hd]; rfl
        clear Hp Hn Hs hd hK hb
        generalize weighL y t.pre = d1 at *
        generalize weighL y t.post = d2 at *
        go_wp2
        go_roundg (gk - 1)
        case measure => omega
        case rel => exact ⟨k + 1, by omega, by go_num, E, R⟩
    · have F : Hid (keptL n y = true) := by show _ = _; rw [← Hall.out k (by omega)]; exact hK.out
      go_wp2
      go_ret
      exact ⟨ret_bool F.out.symm, below_then b1 hb⟩

theorem in_zero (xs : List Int) : inL xs 0 0 = xs.all fun x => x == 0 := by
  unfold inL
  congr 1
  funext x
  rw [Bool.eq_iff_iff]
  simp only [Bool.and_eq_true, decide_eq_true_eq, beq_iff_eq]
  omega

set_option maxHeartbeats 400000 in
theorem flow_round (v u : Value) (n : NetL) (c : List Int) (w : World) (hv : Net w v n) (hu : Ints w u c) :
    Calls Try.prog 18 #[v, u] w fun e w' => e = .returned (.bool (roundL n c)) ∧ Below w.heap.size w w' := by
  obtain ⟨tv, rfl, hT⟩ := hv
  have b1 := below_new w (.cells #[.int .i64 n.places, tv] 24)
  have hbx := box2_new w (.int .i64 n.places) tv 24
  replace hu := hu.below b1
  have hv : Net _ _ n := ⟨tv, rfl, hT.below b1⟩
  have HE : Hid (roundL n c = (((effectL n c).2 == 0) && inL (effectL n c).1 0 0)) := by show _ = _; rw [in_zero]; rfl
  go_enter Try.func18, Try.ntmps18
  go_wp2_with fail
  refine (flow_effect _ _ n c _ (by exact hv) (by exact hu)).mono ?_
  rintro e w1 ⟨r, rfl, hr, b2⟩
  replace b1 := below_then b1 b2
  clear b2 hv hbx hu hT
  generalize effectL n c = q at *
  obtain ⟨zs, cd⟩ := q
  simp only at hr HE ⊢
  cases h0 : (cd == 0)
  · have E : Hid (roundL n c = false) := by show _ = _; rw [HE.out, h0]; rfl
    clear HE
    go_wp2
    go_ret
    exact ⟨ret_bool E.out.symm, b1⟩
  · have E : Hid (roundL n c = inL zs 0 0) := by show _ = _; rw [HE.out, h0]; rfl
    clear HE
    go_wp2_with fail
    refine (fwithin_any _ zs _ _ _ (by exact hr)).mono ?_
    rintro e w2 ⟨rfl, rfl⟩
    rw [← E.out]
    go_wp2
    go_ret
    exact ⟨rfl, b1⟩

end Go.Proofs.Ytdaigbamgplboaa
