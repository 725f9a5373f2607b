/- The law DeskBusy, walked. (Made by tools/gen_desk.py.) -/
import Derived.Test.YtplfflnkidcglaaGr18
import Derived.Test.YtplfflnkidcglaaSlices2
import Derived.Test.YtplfflnkidcglaaGr00
import Derived.Test.YtplfflnkidcglaaGr01
import Derived.Test.YtplfflnkidcglaaGr04
import Derived.Deep.RegionHeld3
namespace Go.Proofs.Ytplfflnkidcglaa
open Go.RowKit
set_option linter.unusedVariables false
set_option linter.unusedSimpArgs false
set_option maxRecDepth 4000

/-- How many of the first so many are open, of a transition. -/
def openTo (l : List ItemL) (k : Nat) (t : Nat) : Int := (openOf t (l.take k) : Int)
theorem openTo_succ {l : List ItemL} {k : Nat} (h : k < l.length) (t : Nat) : openTo l (k + 1) t = openTo l k t + cntI t (itemAt l k) := by
  unfold openTo
  rw [List.take_add_one, List.getElem?_eq_getElem h, open_append]
  have : itemAt l k = l[k] := by unfold itemAt; rw [List.getD_eq_getElem?_getD, List.getElem?_eq_getElem h]; rfl
  rw [this]
  simp [openOf]
theorem openTo_all {l : List ItemL} {k : Nat} (h : l.length ≤ k) (t : Nat) : openTo l k t = openOf t l := by unfold openTo; rw [List.take_of_length_le h]
theorem openTo_le (l : List ItemL) (k t : Nat) : 0 ≤ openTo l k t ∧ openTo l k t ≤ k := by
  have : ∀ m : List ItemL, openOf t m ≤ m.length := by
    intro m
    induction m with
    | nil => exact Nat.le_refl _
    | cons x m ih => simp only [openOf, List.length_cons, cntI]; split <;> omega
  have h1 := this (l.take k)
  rw [List.length_take] at h1
  unfold openTo
  omega

set_option maxHeartbeats 8000000 in
theorem deskBusy_walk (v r u : Value) (n : NetL) (i : Int) (roles : List (List Int)) (os : List DOp) (w : World) (hv : Net w v n) (hr : Lists w r roles) (hu : DOpsV w u os) :
    Calls Try.prog 5 #[v, .int .i64 i, r, u] w fun e w' => e = .returned (.bool true) ∧ Below w.heap.size w w' := by
  obtain ⟨tv, rfl, hT⟩ := hv
  have c := below_new w (.cells #[.int .i64 n.places, tv] 24)
  have hbx := box2_new w (.int .i64 n.places) tv 24
  have hv : Net _ (.agg #[.int .i64 n.places, tv]) n := ⟨_, rfl, hT.below c⟩
  replace hT := hT.below c
  replace hr := hr.below c
  replace hu := hu.below c
  obtain ⟨w0, Hw0⟩ : ∃ w0, Hid (w.alloc (.cells #[.int .i64 n.places, tv] 24) = w0) := ⟨_, rfl⟩
  rw [Hw0.out] at c hbx hv hT hr hu
  go_enter Try.func5, Try.ntmps5
  go_upto_region 1 with fail
  rw [Hw0.out]
  clear Hw0
  go_wp2_with fail
  refine (alive17_any w0).mono ?_
  rintro e w1 ⟨rfl, b⟩
  replace c := below_then c b
  replace hv := hv.below b
  replace hT := hT.below b
  replace hr := hr.below b
  replace hu := hu.below b
  replace hbx := hbx.below b
  clear b
  obtain ⟨x0, x1, x2⟩ := id hbx
  go_wp2_with fail
  refine (desk_play _ _ _ n i roles os w1 (by exact hv) (by exact hr) (by exact hu)).mono ?_
  rintro e w2 ⟨rv, la, lc, rfl, hD, hA, b⟩
  replace c := below_then c b
  replace hv := hv.below b
  replace hT := hT.below b
  replace hr := hr.below b
  replace hu := hu.below b
  replace hbx := hbx.below b
  clear b x0 x1 x2
  have HDE : Hid (((deskAll n i roles os).2.2 ≠ 0 ∧ deskAll n i roles os = (noDesk, [], (deskAll n i roles os).2.2)) ∨ (deskAll n i roles os = ((deskPlay n roles (deskBegin n i) os).1, (deskPlay n roles (deskBegin n i) os).2, 0) ∧ (beginC n i).2 = 0)) := by
    by_cases h : (beginC n i).2 = 0
    · exact .inr ⟨by unfold deskAll; rw [if_pos h], h⟩
    · refine .inl ⟨?_, ?_⟩
      · unfold deskAll; rw [if_neg h]; exact h
      · unfold deskAll; rw [if_neg h]
  obtain ⟨D, HD⟩ : ∃ D, Hid (deskAll n i roles os = D) := ⟨_, rfl⟩
  rw [HD.out] at hD hA HDE ⊢
  obtain ⟨dk, ans, E⟩ := D
  simp only at hD hA HDE
  simp only
  obtain ⟨d1, l1, p1, d2, l2, p2, ia, ic, rfl, h1, h2, h3⟩ := hD
  obtain ⟨il, Hil⟩ : ∃ il, Hid (dk.items.length = il) := ⟨_, rfl⟩
  rw [Hil.out] at h3 ⊢
  have bn := below_new w2 (.cells #[.slice d1 l1 p1, .slice d2 l2 p2, .slice ia il ic] 32)
  have hb3 := box3_new w2 (.slice d1 l1 p1) (.slice d2 l2 p2) (.slice ia il ic) 32
  obtain ⟨B3, HB3⟩ : ∃ B, Hid (w2.heap.size = B) := ⟨_, rfl⟩
  rw [HB3.out] at hb3
  obtain ⟨w3, H3⟩ : ∃ w3, Hid (w2.alloc (.cells #[.slice d1 l1 p1, .slice d2 l2 p2, .slice ia il ic] 32) = w3) := ⟨_, rfl⟩
  rw [H3.out] at bn hb3
  replace c := below_then c bn
  replace hv := hv.below bn
  replace hT := hT.below bn
  replace hr := hr.below bn
  replace hu := hu.below bn
  replace hbx := hbx.below bn
  replace hA := hA.below bn
  replace h1 := h1.below bn
  replace h2 := h2.below bn
  replace h3 := h3.below bn
  clear bn
  go_upto_region 4 with fail
  rw [H3.out, HB3.out]
  clear H3
  obtain ⟨z0, z1, z2, z3⟩ := id hb3
  rcases HDE.out with ⟨hE, hnd⟩ | ⟨hok, hbeg⟩
  · have hE' : (E != 0) = true := by simpa using hE
    have e0 : dk = noDesk := by injection hnd
    obtain rfl : il = 0 := by rw [← Hil.out, e0]; rfl
    clear HDE hnd hE hA h1 h2 h3 hT hr hu hv e0
    go_wp2
    go_ret
    exact ⟨rfl, c⟩
  · have e0 : dk = (deskPlay n roles (deskBegin n i) os).1 := by injection hok
    have e1 : ans = (deskPlay n roles (deskBegin n i) os).2 := by injection hok with _ h; injection h
    have e2 : E = 0 := by injection hok with _ h; injection h
    subst e2
    have HInv : Hid (DeskInv n roles dk) := by show DeskInv n roles dk; rw [e0]; exact (desk_begin roles hbeg).play os
    obtain ⟨ta, len, tc, rfl, hlen, hmx, hsh, _⟩ := id hT
    have Hlen : Hid (n.trans.length = len) := hlen
    have hcap : len ≤ tc := hsh.1
    have hcap2 : tc ≤ 9223372036854775807 := hsh.2.1
    clear hlen hsh HDE
    have Hbusy : Hid (∀ t, t < len → nth dk.case.busy t = openOf t dk.items) := fun t ht => HInv.out.busy t (by rw [Hlen.out]; exact ht)
    have Hbl : Hid (dk.case.busy.length = len) := by rw [← Hlen.out]; exact (rightC_iff.1 HInv.out.right).2.1
    have h24 : len ≤ 24 := by
      have hn := (fits_net (rightC_iff.1 HInv.out.right).1).1
      unfold netOk headOk at hn
      simp only [Bool.and_eq_true, decide_eq_true_eq] at hn
      rw [← Hlen.out]; omega
    have Hmay : Hid (∀ k, k < il → ∃ t : Nat, (itemAt dk.items k).tran = t ∧ t < len) := fun k hk => by
      obtain ⟨t, e1, e2, _⟩ := HInv.out.may k (by rw [Hil.out]; exact hk)
      exact ⟨t, e1, by rw [← Hlen.out]; exact e2⟩
    have hil : il ≤ 5864062014805 := by obtain ⟨_, _, _, e, _, h, _⟩ := id h3; injection e with _ e _; omega
    clear hu hA h1 hok e0 e1 hv hr HInv
    obtain ⟨w4, hmk, hR0⟩ := make_intsZ w3 len (len : Int) rfl (by omega)
    obtain ⟨x0, x1, x2⟩ := id hbx
    obtain ⟨Br, HBr⟩ : ∃ B, Hid (w3.heap.size = B) := ⟨_, rfl⟩
    rw [HBr.out] at hmk hR0
    have hb4 : Below w3.heap.size w3 w4 := by rw [HBr.out]; exact hR0.below
    have hR : RowAt Br w3 w4 len (openTo dk.items 0) := hR0.same fun j _ => rfl
    go_upto_region 7 with fail
    clear x0 x1 x2 hmk z0 z1 z2 z3 hR0
    obtain ⟨z0, z1, z2, z3⟩ := hb3.below hb4
    go_wp2_with fail
    clear z0 z1 z2 z3 hb4
    go_loopg [35] il (fun gk k' wr => ∃ k : Nat, k + gk = il ∧ k' = .int .i64 (k : Int) ∧ RowAt Br w3 wr len (openTo dk.items k))
    case atStart => exact ⟨0, by omega, rfl, hR⟩
    case round =>
      clear hR
      obtain ⟨k, hkg, rfl, hR⟩ := hrel
      have hb : Below w3.heap.size w3 wr := by rw [HBr.out]; exact hR.below
      by_cases hkn : k < il
      · obtain ⟨bi, oi, rfl, hlt, c0, c1, c2⟩ := (h3.below hb).at hkn
        obtain ⟨t, e1, e2⟩ := Hmay.out k hkn
        have HOS : Hid (∀ t, openTo dk.items (k + 1) t = openTo dk.items k t + cntI t (itemAt dk.items k)) := openTo_succ (by rw [Hil.out]; exact hkn)
        have HOO : Hid (∀ a, (itemAt dk.items k).opn = true → cntI a (itemAt dk.items k) = if t = a then 1 else 0) := fun a h => cnt_open h e1
        have HOC : Hid (∀ a, (itemAt dk.items k).opn = false → cntI a (itemAt dk.items k) = 0) := fun a h => cnt_shut h
        rw [e1] at c1
        obtain ⟨us, Hus⟩ : ∃ us, Hid ((itemAt dk.items k).user = us) := ⟨_, rfl⟩
        rw [Hus.out] at c0
        obtain ⟨op, Hop⟩ : ∃ op, Hid ((itemAt dk.items k).opn = op) := ⟨_, rfl⟩
        rw [Hop.out] at c2 HOO HOC
        have bn := below_new wr (.cells #[.int .i64 us, .int .i64 (t : Int), .bool op] 44)
        have hbi := box3_new wr (.int .i64 us) (.int .i64 (t : Int)) (.bool op) 44
        obtain ⟨Bt, HBt⟩ : ∃ B, Hid (wr.heap.size = B) := ⟨_, rfl⟩
        rw [HBt.out] at hbi
        obtain ⟨w5, H5⟩ : ∃ w5, Hid (wr.alloc (.cells #[.int .i64 us, .int .i64 (t : Int), .bool op] 44) = w5) := ⟨_, rfl⟩
        rw [H5.out] at bn hbi
        have hR5 := hR.to bn
        have hBlt : Br < Bt := by rw [← HBt.out]; exact hR.size
        obtain ⟨y0, y1, y2, y3⟩ := id hbi
        clear e1 bn hb
        go_upto_region 10 with fail
        rw [H5.out, HBt.out]
        clear H5 c0 c1 c2 hR
        cases op
        · have R : Hid (RowAt Br w3 w5 len (openTo dk.items (k + 1))) := hR5.same fun j _ => by rw [HOS.out, HOC.out j rfl]; omega
          clear HOS HOO HOC hR5
          go_wp2
          go_roundg (gk - 1)
          case measure => omega
          case rel => exact ⟨k + 1, by omega, by go_num, R.out⟩
        · have cc := hR5.cells t e2
          have cf := hR5.frozen t e2
          have hle := openTo_le dk.items k t
          have R : Hid (∀ z, z = openTo dk.items k t + 1 → RowAt Br w3 (w5.setCell ⟨Br, t, none⟩ (.int .i64 z)) len (openTo dk.items (k + 1))) := fun z hz => hR5.put e2 (by rw [HOS.out, HOO.out t rfl, if_pos rfl, hz]; rfl) fun j _ hj => by rw [HOS.out, HOO.out j rfl, if_neg (fun q => hj q.symm)]; simp
          obtain ⟨ov, Hov⟩ : ∃ ov, Hid (openTo dk.items k t = ov) := ⟨_, rfl⟩
          rw [Hov.out] at cc hle R
          have R2 : Hid _ := R.out (ov + 1) rfl
          clear HOS HOO HOC hR5 R Hov
          go_wp2
          go_roundg (gk - 1)
          case measure => omega
          case rel => exact ⟨k + 1, by omega, by go_num, R2.out⟩
      · obtain rfl : k = il := by omega
        have hI : Ints wr (.slice (some ⟨Br, 0, none⟩) len len) dk.case.busy := hR.ints Hbl.out (fun j hj => by rw [Hbusy.out j hj, openTo_all (by rw [Hil.out]; exact Nat.le_refl _)]) (by omega) (Nat.le_refl _) (by omega)
        replace h2 := h2.below hb
        replace c := below_then c hb
        obtain ⟨z0, z1, z2, z3⟩ := hb3.below hb
        clear hR hb
        go_wp2_with fail
        refine (equal_b _ _ dk.case.busy dk.case.busy wr (by exact hI) (by exact h2)).mono ?_
        rintro e w6 ⟨rfl, b6⟩
        rw [beq_self_eq_true]
        replace c := below_then c b6
        go_wp2
        go_ret
        exact ⟨rfl, c⟩

end Go.Proofs.Ytplfflnkidcglaa
