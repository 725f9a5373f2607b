/- The law LiveDead, walked: it answers true, and writes nothing that was there. -/
import Derived.Test.YtlejaeecfeiajaaAlive7
import Derived.Test.YtlejaeecfeiajaaSlices2
import Derived.Test.YtlejaeecfeiajaaReachDev
namespace Go.Proofs.Ytlejaeecfeiajaa
open Go.RowKit
set_option linter.unusedVariables false
set_option maxRecDepth 4000

theorem dead_run {n : NetL} {m x seq : List Int} {s : SpaceL} {T : Int} (h : Whole n m s) (hr : runL n m seq = (x, 0)) : ∀ t ∈ seq, hasL (deadL (toZ s) T) t = false := by
  intro t ht
  obtain ⟨h0, e0⟩ := h.here
  rw [← e0] at hr
  obtain ⟨_, hall⟩ := h.run_comes seq (k := 0) h0 (.here _) hr
  obtain ⟨a, ha, e, _⟩ := hall t ht
  cases hh : hasL (deadL (toZ s) T) t with
  | false => rfl
  | true =>
    exfalso
    have hm : t ∈ deadL (toZ s) T := by unfold hasL at hh; simpa using hh
    exact (mem_dead.1 hm).2.2 (arcZ a) (mem_arcZ.2 ⟨a, ha, rfl⟩) e
theorem dead_live {n : NetL} {m : List Int} {s : SpaceL} {T t : Int} {xs : List Int} (h : Whole n m s) (hd : hasL (deadL (toZ s) T) t = true) (hL : IsLive (toZ s) T xs) : hasL xs t = false := by
  have hm : t ∈ deadL (toZ s) T := by unfold hasL at hd; simpa using hd
  cases hh : hasL xs t with
  | false => rfl
  | true =>
    exfalso
    have hx : t ∈ xs := by unfold hasL at hh; simpa using hh
    obtain ⟨_, _, _, hall⟩ := (hL.mem t).1 hx
    have h0 := h.here.1
    obtain ⟨a, ha, e, _⟩ := hall 0 (by omega) (by simp only [toZ]; omega)
    exact (mem_dead.1 hm).2.2 a ha e

set_option maxRecDepth 4000 in
set_option maxHeartbeats 4000000 in
theorem liveDead_walk (v u sv : Value) (n : NetL) (m seq : List Int) (w : World) (hv : Net w v n) (hu : Ints w u m) (hs : Ints w sv seq) :
    Calls Try.prog 5 #[v, u, sv] w fun e w' => e = .returned (.bool true) ∧ Below w.heap.size w w' := by
  obtain ⟨tv, rfl, hT⟩ := hv
  have c := below_new w (.cells #[.int .i64 n.places, tv] 35)
  have hbx := box2_new w (.int .i64 n.places) tv 35
  have hv : Net _ (.agg #[.int .i64 n.places, tv]) n := ⟨_, rfl, hT.below c⟩
  replace hu := hu.below c
  replace hs := hs.below c
  obtain ⟨ta, tl, tc, rfl, htl, htm, _, _⟩ := id hT
  obtain ⟨as_, ls_, cs_, rfl, hls, hms, _, hrow⟩ := id hs
  clear hT
  go_enter Try.func5, Try.ntmps5
  go_wp2_with fail
  refine (alive7_any _).mono ?_
  rintro e w1 ⟨rfl, b⟩
  replace hv := hv.below b
  replace hu := hu.below b
  replace hs := hs.below b
  replace hbx := hbx.below b
  replace c := below_then c b
  clear b
  obtain ⟨x0, x1, x2⟩ := id hbx
  go_wp2_with fail
  refine (reach_graph _ _ n m 300 _ (by exact hv) (by exact hu)).mono ?_
  rintro e w2 ⟨r1, rfl, hr1, b⟩
  replace hv := hv.below b
  replace hu := hu.below b
  replace hs := hs.below b
  replace hbx := hbx.below b
  replace c := below_then c b
  clear b x0 x1 x2
  have HW : Hid (∀ s, graphL n m 300 = (s, 0) → Whole n m s) := fun s h => graphL_whole h
  have Hsm : Hid ((graphL n m 300).1.marks.length ≤ 300) := graphL_small n m 300
  generalize graphL n m 300 = p1 at *
  obtain ⟨s, cd⟩ := p1
  simp only at hr1 ⊢
  obtain ⟨mv, av, hre, hM, hA⟩ := id hr1
  obtain ⟨am, cm, rfl, _⟩ := hM.slice
  obtain ⟨aa, ca, rfl, _⟩ := hA.slice
  subst hre
  obtain ⟨lm, Hlm⟩ : ∃ lm, Hid (s.marks.length = lm) := ⟨_, rfl⟩
  obtain ⟨la, Hla⟩ : ∃ la, Hid ((s.arcs.map arcZ).length = la) := ⟨_, rfl⟩
  rw [Hlm.out, Hla.out] at hr1 ⊢
  clear hM hA
  have bs := below_new w2 (.cells #[.slice am lm cm, .slice aa la ca] 25)
  have hbs := box2_new w2 (.slice am lm cm) (.slice aa la ca) 25
  obtain ⟨ws, Hws⟩ : ∃ ws, Hid (w2.alloc (.cells #[.slice am lm cm, .slice aa la ca] 25) = ws) := ⟨_, rfl⟩
  rw [Hws.out] at bs hbs
  replace hv := hv.below bs
  replace hu := hu.below bs
  replace hs := hs.below bs
  have hsp := (hr1.below bs).toV Hsm.out
  replace hbx := hbx.below bs
  replace c := below_then c bs
  clear bs hr1
  obtain ⟨x0, x1, x2⟩ := id hbx
  go_upto_region 4 with fail
  rw [Hws.out]
  clear Hws
  go_wp2_with fail
  refine (net_run n seq _ _ _ m _ (by exact hv) (by exact hu) (by exact hs)).mono ?_
  rintro e w3 ⟨r3, rfl, hr3, b⟩
  replace hs := hs.below b
  replace hsp := hsp.below b
  replace hbx := hbx.below b
  replace hbs := hbs.below b
  replace c := below_then c b
  clear b x0 x1 x2 hv hu
  have HR : Hid (∀ x, runL n m seq = (x, 0) → Whole n m s → ∀ t ∈ seq, hasL (deadL (toZ s) tl) t = false) := fun x hx hW => dead_run hW hx
  generalize runL n m seq = q at *
  obtain ⟨x, cd2⟩ := q
  simp only at hr3 ⊢
  by_cases h1 : cd = 0
  case neg =>
    have hne : (cd != 0) = true := by simpa using h1
    go_wp2
    go_ret
    exact ⟨rfl, c⟩
  by_cases h2 : cd2 = 0
  case neg =>
    subst h1
    have hne : (cd2 != 0) = true := by simpa using h2
    go_wp2
    go_ret
    exact ⟨rfl, c⟩
  subst h1 h2
  have HW2 : Hid _ := HW.out s rfl
  have HR2 : Hid _ := HR.out x rfl HW2.out
  clear HW HR hr3
  obtain ⟨x0, x1, x2⟩ := id hbx
  obtain ⟨y0, y1, y2⟩ := id hbs
  go_wp2_with fail
  refine (live_dead _ (toZ s) tl _ (by exact hsp)).mono ?_
  rintro e w4 ⟨r4, rfl, hr4, b⟩
  replace hs := hs.below b
  replace hsp := hsp.below b
  replace hbx := hbx.below b
  replace hbs := hbs.below b
  replace c := below_then c b
  clear b x0 x1 x2 y0 y1 y2
  have HD : Hid (∀ xs t, hasL (deadL (toZ s) tl) t = true → IsLive (toZ s) tl xs → hasL xs t = false) := fun xs t h1 h2 => dead_live HW2.out h1 h2
  generalize deadL (toZ s) (tl : Int) = dl at *
  have hrow2 : Row w4 as_ seq := by obtain ⟨_, _, _, e, _, _, _, hr⟩ := hs; injection e with e1 e2 e3; subst e1; exact hr
  go_wp2_with fail
  go_loopg [43] ls_ (fun g i wr => ∃ k : Nat, k + g = ls_ ∧ i = .int .i64 k ∧ Below w4.heap.size w4 wr)
  case atStart => exact ⟨0, by omega, rfl, Below.refl _ _⟩
  case round =>
    obtain ⟨k, hkg, rfl, hb⟩ := hrel
    by_cases hkn : k < ls_
    · obtain ⟨bb, off, rfl, hbb, hc⟩ := (hrow2.below hb) k (by omega)
      have hrb := hr4.below hb
      have hf : hasL dl (nth seq k) = false := HR2.out _ (by
        have hk' : k < seq.length := by omega
        have e : nth seq k = seq[k] := by simp [nth, List.getD, List.getElem?_eq_getElem hk']
        rw [e]; exact List.getElem_mem hk')
      clear hrow hrow2
      generalize nth seq k = z at *
      go_wp2_with fail
      refine (contains_any _ dl z _ (by exact hrb)).mono ?_
      rintro e w6 ⟨rfl, rfl⟩
      rw [hf]
      clear hf hrb hc
      go_wp2
      go_roundg (gk - 1)
      case measure => omega
      case rel => exact ⟨k + 1, by omega, by go_num, hb⟩
    · obtain ⟨WB, hWB⟩ : ∃ WB, WB = wr := ⟨_, rfl⟩
      subst hWB
      replace hsp := hsp.below hb
      replace hbx := hbx.below hb
      replace hbs := hbs.below hb
      replace hr4 := hr4.below hb
      replace c := below_then c hb
      obtain ⟨x0, x1, x2⟩ := id hbx
      clear hrow hrow2 hb
      go_wp2_with fail
      clear x0 x1 x2
      go_loopg [54] tl (fun g i wr => ∃ j : Nat, j + g = tl ∧ i = .int .i64 j ∧ Below WB.heap.size WB wr)
      case atStart => exact ⟨0, by omega, rfl, Below.refl _ _⟩
      case round =>
        obtain ⟨j, hjg, rfl, hb⟩ := hrel
        by_cases hjn : j < tl
        · have hrb := hr4.below hb
          obtain ⟨x0, x1, x2⟩ := hbx.below hb
          obtain ⟨y0, y1, y2⟩ := hbs.below hb
          have hspb := hsp.below hb
          have Hd : Hid (∀ xs, hasL dl j = true → IsLive (toZ s) tl xs → hasL xs j = false) := fun xs => HD.out xs j
          go_wp2_with fail
          refine (contains_any _ dl j _ (by exact hrb)).mono ?_
          rintro e w6 ⟨rfl, rfl⟩
          cases hh : hasL dl j
          · clear Hd
            go_wp2
            go_roundg (gk - 1)
            case measure => omega
            case rel => exact ⟨j + 1, by omega, by go_num, hb⟩
          · go_wp2_with fail
            refine (live_live _ (toZ s) tl _ (by exact hspb)).mono ?_
            rintro e w7 ⟨r7, xs, rfl, hr7, hL, b7⟩
            have hf := Hd.out xs hh hL
            replace hb := below_then hb b7
            clear Hd hL x0 x1 x2 y0 y1 y2
            go_wp2_with fail
            refine (contains_any _ xs j _ (by exact hr7)).mono ?_
            rintro e w8 ⟨rfl, rfl⟩
            rw [hf]
            clear hf hr7 hrb
            go_wp2
            go_roundg (gk - 1)
            case measure => omega
            case rel => exact ⟨j + 1, by omega, by go_num, hb⟩
        · have R := below_then c hb
          go_wp2
          go_ret
          exact ⟨rfl, R⟩

end Go.Proofs.Ytlejaeecfeiajaa
