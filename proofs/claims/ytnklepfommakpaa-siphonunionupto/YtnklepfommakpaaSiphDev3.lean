/- Package siphon as it landed: grouped. -/
import Derived.Test.YtnklepfommakpaaSiphDev2
namespace Go.Proofs.Ytnklepfommakpaa
open Go.RowKit
set_option linter.unusedVariables false

/-- What grouped leaves to be known: whether all is right, and then who is in. -/
theorem grouped_boxes (w : World) (x y : Value) : ∃ w1, Hid (((w.alloc (.cells #[x, y] 24)).alloc (.cells (grpC fun _ => false) 47)).alloc (.cells (grpC fun _ => false) 47) = w1) ∧ Box2 w1 w.heap.size x y ∧ GrpAt w1 (w.heap.size + 1) (fun _ => false) ∧ GrpAt w1 (w.heap.size + 2) (fun _ => false) ∧ Below w.heap.size w w1 := by
  obtain ⟨w1, H1, h1, h2, h3⟩ := grp_two (w.alloc (.cells #[x, y] 24)) (fun _ => false) (fun _ => false)
  refine ⟨w1, H1, (box2_new w x y 24).below h3, ?_, ?_, below_then (below_new _ _) h3⟩
  · simpa using h1
  · simpa using h2

theorem box2_keep {w : World} {b : Nat} {x y u : Value} {p : Addr} (h : Box2 w b x y) (hp : p.block ≠ b) : Box2 (w.setCell p u) b x y := by
  have ne : ∀ j, (⟨b, j, none⟩ : Addr) ≠ p := fun j e => hp (by rw [← e])
  refine ⟨by simpa [World.setCell] using h.1, ?_, ?_⟩
  · rw [World.cell?_setCell_other _ _ _ _ (Ne.symm (ne 0))]; exact h.2.1
  · rw [World.cell?_setCell_other _ _ _ _ (Ne.symm (ne 1))]; exact h.2.2

set_option maxRecDepth 4000 in
set_option maxHeartbeats 4000000 in
theorem grouped_wrong (v u : Value) (n : NetL) (l : List Int) (w : World) (hv : Net w v n) (hu : Ints w u l) (hok : netOk n = false) :
    Calls Try.prog 28 #[v, u] w fun e w' => ∃ g, e = .returned (.tuple #[grpV g, .bool false]) ∧ Below w.heap.size w w' := by
  obtain ⟨tv, rfl, hT⟩ := hv
  obtain ⟨w1, Hw1, hbx, hR, hG, hB⟩ := grouped_boxes w (.int .i64 n.places) tv
  have hv : Net w1 (.agg #[.int .i64 n.places, tv]) n := ⟨_, rfl, hT.below hB⟩
  clear hT
  go_enter Try.func28, Try.ntmps28
  go_upto_region 2 with fail
  rw [Hw1.out]
  clear Hw1
  obtain ⟨x0, x1, x2⟩ := id hbx
  go_wp2_with fail
  refine (net_wrong _ n _ (by exact hv)).mono ?_
  rintro e w2 ⟨rfl, b⟩
  replace hbx := hbx.below b
  replace hR := hR.below b
  replace hG := hG.below b
  replace hB := below_then hB b
  clear b hv x0 x1 x2
  rw [wrongL_not hok]
  obtain ⟨f, Hf⟩ : ∃ f : Nat → Bool, Hid ((fun _ => false) = f) := ⟨_, rfl⟩
  rw [Hf.out] at hR hG
  have R : Hid (GrpAt (storeG w2 (w.heap.size + 1) f) (w.heap.size + 1) f) := hR.store f
  have B2 : Hid (Below w.heap.size w (storeG w2 (w.heap.size + 1) f)) := below_storeG hB (by omega) f
  clear hB hu hok hbx Hf
  go_wp2_with (first | (refine wpList_load_grp rfl _ rfl (w.heap.size + 2) f rfl hG ?_) | (refine wpList_store_grp rfl _ _ rfl (w.heap.size + 1) f f rfl rfl hR ?_; intro W HW; rw [HW] at R B2; clear HW hG hR))
  exact bodyPost_ret (v := .tuple #[grpV f, .bool false]) (results_grp2 rfl rfl rfl R.out) rfl ⟨f, rfl, B2.out⟩

set_option maxRecDepth 4000 in
set_option maxHeartbeats 4000000 in
theorem grouped_good (v u : Value) (n : NetL) (l : List Int) (w : World) (hv : Net w v n) (hu : Ints w u l) (hok : netOk n = true) (hin : ∀ j, j < l.length → 0 ≤ nth l j ∧ nth l j < n.places) :
    Calls Try.prog 28 #[v, u] w fun e w' => e = .returned (.tuple #[grpV (hadG l l.length), .bool true]) ∧ Below w.heap.size w w' := by
  obtain ⟨tv, rfl, hT⟩ := hv
  obtain ⟨w1, Hw1, hbx, hR, hG, hB⟩ := grouped_boxes w (.int .i64 n.places) tv
  have hv : Net w1 (.agg #[.int .i64 n.places, tv]) n := ⟨_, rfl, hT.below hB⟩
  clear hT
  go_enter Try.func28, Try.ntmps28
  go_upto_region 2 with fail
  rw [Hw1.out]
  clear Hw1
  obtain ⟨x0, x1, x2⟩ := id hbx
  go_wp2_with fail
  refine (net_wrong _ n _ (by exact hv)).mono ?_
  rintro e w2 ⟨rfl, b⟩
  replace hbx := hbx.below b
  replace hR := hR.below b
  replace hG := hG.below b
  replace hB := below_then hB b
  clear b hv x0 x1 x2
  rw [wrongL_ok hok]
  obtain ⟨hP0, hP1⟩ := ok_places hok
  obtain ⟨P, HP⟩ : ∃ P, Hid (n.places = P) := ⟨_, rfl⟩
  rw [HP.out] at hP0 hP1 hbx
  have HQ : Hid _ := hin
  rw [HP.out] at HQ
  clear hin
  have HH : Hid (∀ k q : Nat, k < l.length → nth l k = (q : Int) → ∀ p, hadG l (k + 1) p = if p = q then true else hadG l k p) := fun k q hk hq p => hadG_put hk hq p
  rw [← hadG_zero l] at hG
  obtain ⟨a, ll, ca, rfl, hll, hml, _, hrl⟩ := hu
  rw [hll] at HQ HH
  clear hok
  go_wp2_with fail
  go_loopw [15] (fun i wr => ∃ k : Nat, k ≤ ll ∧ i = .int .i64 k ∧ GrpAt wr (w.heap.size + 2) (hadG l k) ∧ GrpAt wr (w.heap.size + 1) (fun _ => false) ∧ Box2 wr w.heap.size (.int .i64 P) tv ∧ Below w.heap.size w wr) (fun i _ => ll - (intOf i).toNat)
  case atStart => exact ⟨0, Nat.zero_le _, rfl, hG, hR, hbx, hB⟩
  case round =>
    clear hG hR hB hbx
    obtain ⟨k, hk, rfl, hG, hR, hbx, hB⟩ := hrel
    obtain ⟨x0, x1, x2⟩ := id hbx
    by_cases hkn : k < ll
    · obtain ⟨bb, off, rfl, hbb, hc⟩ := hrl k (by omega)
      replace hc := (hB.cell (p := ⟨bb, off + k, none⟩) hbb).trans hc
      have hq := HQ.out k hkn
      have HH2 : Hid _ := HH.out k
      clear hrl HH HQ
      generalize nth l k = p at *
      obtain ⟨q, rfl⟩ := Int.eq_ofNat_of_zero_le hq.1
      have hq2 := hq.2
      clear hq
      have hq16 : q < 16 := by omega
      have h0 : ¬ ((q : Int) < 0) := by omega
      have h1 : ¬ (P ≤ (q : Int)) := by omega
      have R : Hid (GrpAt (wr.setCell ⟨w.heap.size + 2, q, none⟩ (.bool true)) (w.heap.size + 2) (hadG l (k + 1))) := (hG.put hq16 true).same fun j _ => (HH2.out q hkn rfl j).symm
      have R2 : Hid (GrpAt (wr.setCell ⟨w.heap.size + 2, q, none⟩ (.bool true)) (w.heap.size + 1) (fun _ => false)) := hR.set (by show w.heap.size + 2 ≠ _; omega) _
      have R3 : Hid (Box2 (wr.setCell ⟨w.heap.size + 2, q, none⟩ (.bool true)) w.heap.size (.int .i64 P) tv) := box2_keep hbx (by show w.heap.size + 2 ≠ _; omega)
      have B2 : Hid (Below w.heap.size w (wr.setCell ⟨w.heap.size + 2, q, none⟩ (.bool true))) := hB.setCell (p := ⟨w.heap.size + 2, q, none⟩) (by show w.heap.size ≤ w.heap.size + 2; omega) _
      have hcc := hG.cell hq16
      have hff := hG.frozen q
      clear hG hR hB hbx HH2
      go_wp2
      go_roundw
      case rel => exact ⟨k + 1, by omega, by go_num, R.out, R2.out, R3.out, B2.out⟩
      case measure => simp [intOf]; omega
    · obtain rfl : k = ll := by omega
      obtain ⟨f, Hf⟩ : ∃ f : Nat → Bool, Hid (hadG l k = f) := ⟨_, rfl⟩
      rw [Hf.out] at hG
      have R : Hid (GrpAt (storeG wr (w.heap.size + 1) f) (w.heap.size + 1) f) := hR.store f
      have B2 : Hid (Below w.heap.size w (storeG wr (w.heap.size + 1) f)) := below_storeG hB (by omega) f
      clear hB hbx HH HQ hrl
      go_wp2_with (first | (refine wpList_load_grp rfl _ rfl (w.heap.size + 2) f rfl hG ?_) | (refine wpList_store_grp rfl _ _ rfl (w.heap.size + 1) (fun _ => false) f rfl rfl hR ?_; intro W HW; rw [HW] at R B2; clear HW hG hR))
      exact bodyPost_ret (v := .tuple #[grpV f, .bool true]) (results_grp2 rfl rfl rfl R.out) rfl ⟨by rw [hll, Hf.out], B2.out⟩

set_option maxRecDepth 4000 in
set_option maxHeartbeats 4000000 in
theorem grouped_neg (v u : Value) (n : NetL) (l : List Int) (w : World) (hv : Net w v n) (hu : Ints w u l) (hok : netOk n = true) (jb : Nat) (hjb : jb < l.length) (hin : ∀ j, j < jb → 0 ≤ nth l j ∧ nth l j < n.places) (hbad : nth l jb < 0) :
    Calls Try.prog 28 #[v, u] w fun e w' => ∃ g, e = .returned (.tuple #[grpV g, .bool false]) ∧ Below w.heap.size w w' := by
  obtain ⟨tv, rfl, hT⟩ := hv
  obtain ⟨w1, Hw1, hbx, hR, hG, hB⟩ := grouped_boxes w (.int .i64 n.places) tv
  have hv : Net w1 (.agg #[.int .i64 n.places, tv]) n := ⟨_, rfl, hT.below hB⟩
  clear hT
  go_enter Try.func28, Try.ntmps28
  go_upto_region 2 with fail
  rw [Hw1.out]
  clear Hw1
  obtain ⟨x0, x1, x2⟩ := id hbx
  go_wp2_with fail
  refine (net_wrong _ n _ (by exact hv)).mono ?_
  rintro e w2 ⟨rfl, b⟩
  replace hbx := hbx.below b
  replace hR := hR.below b
  replace hG := hG.below b
  replace hB := below_then hB b
  clear b hv x0 x1 x2
  rw [wrongL_ok hok]
  obtain ⟨hP0, hP1⟩ := ok_places hok
  obtain ⟨P, HP⟩ : ∃ P, Hid (n.places = P) := ⟨_, rfl⟩
  rw [HP.out] at hP0 hP1 hbx
  have HQ : Hid _ := hin
  rw [HP.out] at HQ
  clear hin
  obtain ⟨a, ll, ca, rfl, hll, hml, _, hrl⟩ := hu
  clear hok
  go_wp2_with fail
  go_loopw [15] (fun i wr => ∃ k : Nat, k ≤ jb ∧ i = .int .i64 k ∧ (∃ g, GrpAt wr (w.heap.size + 2) g) ∧ GrpAt wr (w.heap.size + 1) (fun _ => false) ∧ Box2 wr w.heap.size (.int .i64 P) tv ∧ Below w.heap.size w wr) (fun i _ => ll - (intOf i).toNat)
  case atStart => exact ⟨0, Nat.zero_le _, rfl, ⟨_, hG⟩, hR, hbx, hB⟩
  case round =>
    clear hG hR hB hbx
    obtain ⟨k, hk, rfl, ⟨g, hG⟩, hR, hbx, hB⟩ := hrel
    obtain ⟨x0, x1, x2⟩ := id hbx
    have hkn : k < ll := by omega
    obtain ⟨bb, off, rfl, hbb, hc⟩ := hrl k (by omega)
    replace hc := (hB.cell (p := ⟨bb, off + k, none⟩) hbb).trans hc
    by_cases hkb : k < jb
    · have hq := HQ.out k hkb
      clear hrl HQ hbad
      generalize nth l k = p at *
      obtain ⟨q, rfl⟩ := Int.eq_ofNat_of_zero_le hq.1
      have hq2 := hq.2
      clear hq
      have hq16 : q < 16 := by omega
      have h0 : ¬ ((q : Int) < 0) := by omega
      have h1 : ¬ (P ≤ (q : Int)) := by omega
      have R : Hid (GrpAt (wr.setCell ⟨w.heap.size + 2, q, none⟩ (.bool true)) (w.heap.size + 2) _) := hG.put hq16 true
      have R2 : Hid (GrpAt (wr.setCell ⟨w.heap.size + 2, q, none⟩ (.bool true)) (w.heap.size + 1) (fun _ => false)) := hR.set (by show w.heap.size + 2 ≠ _; omega) _
      have R3 : Hid (Box2 (wr.setCell ⟨w.heap.size + 2, q, none⟩ (.bool true)) w.heap.size (.int .i64 P) tv) := box2_keep hbx (by show w.heap.size + 2 ≠ _; omega)
      have B2 : Hid (Below w.heap.size w (wr.setCell ⟨w.heap.size + 2, q, none⟩ (.bool true))) := hB.setCell (p := ⟨w.heap.size + 2, q, none⟩) (by show w.heap.size ≤ w.heap.size + 2; omega) _
      have hcc := hG.cell hq16
      have hff := hG.frozen q
      clear hG hR hB hbx
      go_wp2
      go_roundw
      case rel => exact ⟨k + 1, by omega, by go_num, ⟨_, R.out⟩, R2.out, R3.out, B2.out⟩
      case measure => simp [intOf]; omega
    · obtain rfl : k = jb := by omega
      generalize nth l k = p at *
      have R : Hid (GrpAt (storeG wr (w.heap.size + 1) fun _ => false) (w.heap.size + 1) fun _ => false) := hR.store _
      have B2 : Hid (Below w.heap.size w (storeG wr (w.heap.size + 1) fun _ => false)) := below_storeG hB (by omega) _
      clear hB hrl HQ
      go_wp2_with (first | (refine wpList_store_grp rfl _ _ rfl (w.heap.size + 1) (fun _ => false) (fun _ => false) rfl rfl hR ?_; intro W HW; rw [HW] at R B2; clear HW hG hR))
      exact bodyPost_ret (v := .tuple #[grpV fun _ => false, .bool false]) (results_grp2 rfl rfl rfl R.out) rfl ⟨_, rfl, B2.out⟩

set_option maxRecDepth 4000 in
set_option maxHeartbeats 4000000 in
theorem grouped_far (v u : Value) (n : NetL) (l : List Int) (w : World) (hv : Net w v n) (hu : Ints w u l) (hok : netOk n = true) (jb : Nat) (hjb : jb < l.length) (hin : ∀ j, j < jb → 0 ≤ nth l j ∧ nth l j < n.places) (hbad : 0 ≤ nth l jb ∧ n.places ≤ nth l jb) :
    Calls Try.prog 28 #[v, u] w fun e w' => ∃ g, e = .returned (.tuple #[grpV g, .bool false]) ∧ Below w.heap.size w w' := by
  obtain ⟨tv, rfl, hT⟩ := hv
  obtain ⟨w1, Hw1, hbx, hR, hG, hB⟩ := grouped_boxes w (.int .i64 n.places) tv
  have hv : Net w1 (.agg #[.int .i64 n.places, tv]) n := ⟨_, rfl, hT.below hB⟩
  clear hT
  go_enter Try.func28, Try.ntmps28
  go_upto_region 2 with fail
  rw [Hw1.out]
  clear Hw1
  obtain ⟨x0, x1, x2⟩ := id hbx
  go_wp2_with fail
  refine (net_wrong _ n _ (by exact hv)).mono ?_
  rintro e w2 ⟨rfl, b⟩
  replace hbx := hbx.below b
  replace hR := hR.below b
  replace hG := hG.below b
  replace hB := below_then hB b
  clear b hv x0 x1 x2
  rw [wrongL_ok hok]
  obtain ⟨hP0, hP1⟩ := ok_places hok
  obtain ⟨P, HP⟩ : ∃ P, Hid (n.places = P) := ⟨_, rfl⟩
  rw [HP.out] at hP0 hP1 hbx
  rw [HP.out] at hbad
  have HQ : Hid _ := hin
  rw [HP.out] at HQ
  clear hin
  obtain ⟨a, ll, ca, rfl, hll, hml, _, hrl⟩ := hu
  clear hok
  go_wp2_with fail
  go_loopw [15] (fun i wr => ∃ k : Nat, k ≤ jb ∧ i = .int .i64 k ∧ (∃ g, GrpAt wr (w.heap.size + 2) g) ∧ GrpAt wr (w.heap.size + 1) (fun _ => false) ∧ Box2 wr w.heap.size (.int .i64 P) tv ∧ Below w.heap.size w wr) (fun i _ => ll - (intOf i).toNat)
  case atStart => exact ⟨0, Nat.zero_le _, rfl, ⟨_, hG⟩, hR, hbx, hB⟩
  case round =>
    clear hG hR hB hbx
    obtain ⟨k, hk, rfl, ⟨g, hG⟩, hR, hbx, hB⟩ := hrel
    obtain ⟨x0, x1, x2⟩ := id hbx
    have hkn : k < ll := by omega
    obtain ⟨bb, off, rfl, hbb, hc⟩ := hrl k (by omega)
    replace hc := (hB.cell (p := ⟨bb, off + k, none⟩) hbb).trans hc
    by_cases hkb : k < jb
    · have hq := HQ.out k hkb
      clear hrl HQ hbad
      generalize nth l k = p at *
      obtain ⟨q, rfl⟩ := Int.eq_ofNat_of_zero_le hq.1
      have hq2 := hq.2
      clear hq
      have hq16 : q < 16 := by omega
      have h0 : ¬ ((q : Int) < 0) := by omega
      have h1 : ¬ (P ≤ (q : Int)) := by omega
      have R : Hid (GrpAt (wr.setCell ⟨w.heap.size + 2, q, none⟩ (.bool true)) (w.heap.size + 2) _) := hG.put hq16 true
      have R2 : Hid (GrpAt (wr.setCell ⟨w.heap.size + 2, q, none⟩ (.bool true)) (w.heap.size + 1) (fun _ => false)) := hR.set (by show w.heap.size + 2 ≠ _; omega) _
      have R3 : Hid (Box2 (wr.setCell ⟨w.heap.size + 2, q, none⟩ (.bool true)) w.heap.size (.int .i64 P) tv) := box2_keep hbx (by show w.heap.size + 2 ≠ _; omega)
      have B2 : Hid (Below w.heap.size w (wr.setCell ⟨w.heap.size + 2, q, none⟩ (.bool true))) := hB.setCell (p := ⟨w.heap.size + 2, q, none⟩) (by show w.heap.size ≤ w.heap.size + 2; omega) _
      have hcc := hG.cell hq16
      have hff := hG.frozen q
      clear hG hR hB hbx
      go_wp2
      go_roundw
      case rel => exact ⟨k + 1, by omega, by go_num, ⟨_, R.out⟩, R2.out, R3.out, B2.out⟩
      case measure => simp [intOf]; omega
    · obtain rfl : k = jb := by omega
      generalize nth l k = p at *
      obtain ⟨h0, h1⟩ := hbad
      have h0' : ¬ (p < 0) := by omega
      have R : Hid (GrpAt (storeG wr (w.heap.size + 1) fun _ => false) (w.heap.size + 1) fun _ => false) := hR.store _
      have B2 : Hid (Below w.heap.size w (storeG wr (w.heap.size + 1) fun _ => false)) := below_storeG hB (by omega) _
      clear hB hrl HQ
      go_wp2_with (first | (refine wpList_store_grp rfl _ _ rfl (w.heap.size + 1) (fun _ => false) (fun _ => false) rfl rfl hR ?_; intro W HW; rw [HW] at R B2; clear HW hG hR))
      exact bodyPost_ret (v := .tuple #[grpV fun _ => false, .bool false]) (results_grp2 rfl rfl rfl R.out) rfl ⟨⟨_, rfl⟩, B2.out⟩

theorem first_bad {Q : Nat → Prop} {N : Nat} (h : ¬ ∀ j, j < N → Q j) : ∃ j, j < N ∧ ¬ Q j ∧ ∀ i, i < j → Q i := by
  induction N with
  | zero => exact absurd (fun j hj => absurd hj (Nat.not_lt_zero _)) h
  | succ N ih =>
    by_cases q : ∀ j, j < N → Q j
    · refine ⟨N, by omega, fun hN => h fun j hj => ?_, q⟩
      by_cases e : j = N
      · subst e; exact hN
      · exact q j (by omega)
    · obtain ⟨j, h1, h2, h3⟩ := ih q
      exact ⟨j, by omega, h2, h3⟩

theorem grouped_any (v u : Value) (n : NetL) (l : List Int) (w : World) (hv : Net w v n) (hu : Ints w u l) :
    Calls Try.prog 28 #[v, u] w fun e w' => ∃ g, e = .returned (.tuple #[grpV g, .bool (placesL n l)]) ∧ (placesL n l = true → ∀ p, p ∈ setL g ↔ p ∈ l) ∧ Below w.heap.size w w' := by
  cases hok : netOk n
  · have E : placesL n l = false := by simp [placesL, hok]
    rw [E]
    refine (grouped_wrong v u n l w hv hu hok).mono ?_
    rintro e w' ⟨g, rfl, hb⟩
    exact ⟨g, rfl, fun h => (by cases h), hb⟩
  · by_cases hin : ∀ j, j < l.length → 0 ≤ nth l j ∧ nth l j < n.places
    · have E := places_of hok hin
      rw [E]
      refine (grouped_good v u n l w hv hu hok hin).mono ?_
      rintro e w' ⟨rfl, hb⟩
      exact ⟨_, rfl, fun _ => had_mem E, hb⟩
    · obtain ⟨j, h1, h2, h3⟩ := first_bad hin
      have E := places_not (n := n) h1 h2
      rw [E]
      by_cases h0 : nth l j < 0
      · refine (grouped_neg v u n l w hv hu hok j h1 h3 h0).mono ?_
        rintro e w' ⟨g, rfl, hb⟩
        exact ⟨g, rfl, fun h => (by cases h), hb⟩
      · refine (grouped_far v u n l w hv hu hok j h1 h3 ⟨by omega, by omega⟩).mono ?_
        rintro e w' ⟨g, rfl, hb⟩
        exact ⟨g, rfl, fun h => (by cases h), hb⟩

end Go.Proofs.Ytnklepfommakpaa
