/- TongueRuns: what a run from start to end leaves behind is a word. -/
import Derived.Test.YteoofibhpifmlaaDoorAlive12
import Derived.Test.YteoofibhpifmlaaDoorGr11
import Derived.Test.YteoofibhpifmlaaDoorShapeDev
import Derived.Test.YteoofibhpifmlaaDoorGr07
import Derived.Deep.RegionHeld3
namespace Go.Proofs.YteoofibhpifmlaaDoor
open Go.RowKit
set_option linter.unusedVariables false
set_option linter.unusedSimpArgs false
set_option maxRecDepth 4000

set_option maxHeartbeats 4000000 in
theorem tongueRuns_walk (v q : Value) (n : NetL) (i o : Int) (seq : List Int) (w : World) (hv : Net w v n) (hq : Ints w q seq) (hTab : Tab w) :
    Calls Tryd.prog 4 #[v, .int .i64 i, .int .i64 o, q] w fun e w' => e = .returned (.bool true) ∧ Below w.heap.size w w' := by
  obtain ⟨tv, rfl, hT⟩ := hv
  have c := below_new w (.cells #[.int .i64 n.places, tv] 24)
  have hbx := box2_new w (.int .i64 n.places) tv 24
  have hv : Net (w.alloc (.cells #[.int .i64 n.places, tv] 24)) (.agg #[.int .i64 n.places, tv]) n := ⟨_, rfl, hT.below c⟩
  obtain ⟨w0, Hw0⟩ : ∃ w0, Hid (w.alloc (.cells #[.int .i64 n.places, tv] 24) = w0) := ⟨_, rfl⟩
  rw [Hw0.out] at c hbx hv
  replace hq := hq.below c
  replace hT := hT.below c
  obtain ⟨aq, lq, cq, rfl, hlq, hmq, hsq, _⟩ := id hq
  have Hlq : Hid _ := hlq
  obtain ⟨at_, lt_, ct_, rfl, hlt, _, hst, _⟩ := id hT
  have Hlt : Hid _ := hlt
  have hcap1 : lt_ ≤ ct_ := hst.1
  have hcap2 : ct_ ≤ 9223372036854775807 := hst.2.1
  clear hlq hlt
  go_enter Tryd.func4, Tryd.ntmps4
  go_upto_region 1 with fail
  rw [Hw0.out]
  clear Hw0
  go_wp2_with fail
  refine (alive12_any _ (hTab.below c)).mono ?_
  rintro e w1 ⟨rfl, b1⟩
  replace hbx := hbx.below b1
  replace hv := hv.below b1
  replace c := below_then c b1
  replace hq := hq.below b1
  replace hT := hT.below b1
  clear b1
  obtain ⟨x0, x1, x2⟩ := id hbx
  go_wp2_with fail
  go_region_held3 (fun w' => w'.cell? ⟨w.heap.size, 0, none⟩ = some (.int .i64 n.places) ∧ w'.cell? ⟨w.heap.size, 1, none⟩ = some (.slice at_ lt_ ct_))
    (go_keep)
    (first
      | (go_at_call 12; refine (shape_start _ n i _ ?_).mono ?_; exact hv.below (below_drewN (Below.refl _ _) 1); rintro e w5 ⟨r5, rfl, hr5, q5⟩; have q5 := below_then (below_drewN (Below.refl _ _) 1) q5; have y0 := (q5.cell (p := ⟨w.heap.size, 0, none⟩) x0).trans x1; have y1 := (q5.cell (p := ⟨w.heap.size, 1, none⟩) x0).trans x2)
      | (go_at_call 11; refine (net_run n seq _ _ _ (startL n.places i) _ ?_ ?_ ?_).mono ?_; exact hv.below q5; exact hr5; exact hq.below q5; rintro e w6 ⟨r6, rfl, hr6, q6⟩; have q6 := below_then q5 q6; have y2 := (q6.cell (p := ⟨w.heap.size, 0, none⟩) x0).trans x1; have y3 := (q6.cell (p := ⟨w.heap.size, 1, none⟩) x0).trans x2))
  obtain ⟨a6, l6, c6, rfl, _⟩ := id hr6
  replace hbx := hbx.below q6
  replace hv := hv.below q6
  replace c := below_then c q6
  replace hq := hq.below q6
  replace hT := hT.below q6
  obtain ⟨R, HR⟩ : ∃ R, Hid (runL n (startL n.places i) seq = R) := ⟨_, rfl⟩
  rw [HR.out] at hr6 ⊢
  obtain ⟨rm, rd⟩ := R
  simp only at hr6 ⊢
  clear q5 q6 y0 y1 y2 y3 hr5 x0 x1 x2
  have hTab6 := hTab.below c
  have hsml : ∀ k, (wordTo n (seq.take k)).length ≤ k := fun k => by
    have h1 := wordTo_len n (seq.take k)
    have h2 : (seq.take k).length ≤ k := by simp; omega
    omega
  have Hsml : Hid _ := hsml
  clear hsml
  go_wp2_with fail
  go_loopg [11, 29] lq (fun g x i wr => ∃ k : Nat, k + g = lq ∧ i = .int .i64 k ∧ Own w6.heap.size w6 wr x (wordTo n (seq.take k)))
  case atStart => exact ⟨0, by omega, rfl, Own.nil _⟩
  case round =>
    obtain ⟨k, hkg, rfl, hO⟩ := hrel
    have hlen := Hsml.out k
    have bO := hO.2.1
    obtain ⟨x0, x1, x2⟩ := hbx.below bO
    by_cases hk : k < lq
    · have hk' : decide ((k : Int) < (lq : Int)) = true := by rw [decide_eq_true_eq]; omega
      obtain ⟨b1, o1, rfl, hb1, ec⟩ := ints_at (hq.below bO) hk
      have Hs : Hid _ := wordTo_succ n seq (k := k) (by have := Hlq.out; omega)
      by_cases h0 : 0 ≤ nth seq k
      · obtain ⟨t, ht⟩ : ∃ t : Nat, nth seq k = (t : Int) := ⟨(nth seq k).toNat, by omega⟩
        rw [ht] at ec Hs
        clear h0
        by_cases h1 : t < lt_
        · have g1 : decide ((t : Int) < (lt_ : Int)) = true := by rw [decide_eq_true_eq]; omega
          obtain ⟨bt, ot, p0, q0, rfl, hltb, l0, _, _, _, _⟩ := (hT.below bO).at (k := t) (by omega)
          have hltL : (t : Int) < (n.trans.length : Int) := by have := Hlt.out; omega
          by_cases h2 : 0 < labT n t
          · have g2 : decide ((tranAt n.trans t).label > 0) = true := by rw [decide_eq_true_eq]; exact h2
            have Hp : Hid (putT n (t : Int) = [(tranAt n.trans t).label]) := by
              show _ = _
              unfold putT
              rw [if_pos ⟨by omega, hltL, by simpa using h2⟩]; rfl
            clear hltL h2
            go_wp2_with (at_builtin; refine wp_append_int rfl _ _ rfl w6.heap.size w6 _ _ _ (tranAt n.trans t).label hO rfl rfl (by omega) ?_; intro v' w7 hO7)
            have R7 : Own w6.heap.size w6 w7 v' (wordTo n (seq.take (k + 1))) := by rw [Hs.out, Hp.out]; exact hO7
            clear hO hO7 x0 x1 x2 ec l0
            go_wp2
            go_roundg (gk - 1)
            case measure => omega
            case rel => exact ⟨k + 1, by omega, by go_num, R7⟩
          · have g2 : decide ((tranAt n.trans t).label > 0) = false := by rw [decide_eq_false_iff_not]; exact h2
            have R7 := hO
            rw [show wordTo n (seq.take k) = wordTo n (seq.take (k + 1)) by
              have e : putT n (t : Int) = [] := by
                unfold putT
                rw [if_neg (fun h => h2 (by simpa using h.2.2))]
              rw [Hs.out, e, List.append_nil]] at R7
            clear hltL h2 hO
            go_wp2
            go_roundg (gk - 1)
            case measure => omega
            case rel => exact ⟨k + 1, by omega, by go_num, R7⟩
        · have g1 : decide ((t : Int) < (lt_ : Int)) = false := by rw [decide_eq_false_iff_not]; omega
          have R7 := hO
          rw [show wordTo n (seq.take k) = wordTo n (seq.take (k + 1)) by
            have e : putT n (t : Int) = [] := by
              unfold putT
              rw [if_neg (fun h => by have := Hlt.out; omega)]
            rw [Hs.out, e, List.append_nil]] at R7
          clear hO
          go_wp2
          go_roundg (gk - 1)
          case measure => omega
          case rel => exact ⟨k + 1, by omega, by go_num, R7⟩
      · have g0 : decide (nth seq k ≥ 0) = false := by rw [decide_eq_false_iff_not]; omega
        have R7 := hO
        rw [show wordTo n (seq.take k) = wordTo n (seq.take (k + 1)) by
          have e : putT n (nth seq k) = [] := by
            unfold putT
            rw [if_neg (fun h => h0 h.1)]
          rw [Hs.out, e, List.append_nil]] at R7
        clear hO h0
        go_wp2
        go_roundg (gk - 1)
        case measure => omega
        case rel => exact ⟨k + 1, by omega, by go_num, R7⟩
    · obtain rfl : k = lq := by omega
      clear hk
      have hkk : decide ((k : Int) < (k : Int)) = false := by simp
      have e : seq.take k = seq := List.take_of_length_le (by have := Hlq.out; omega)
      rw [e] at hO hlen
      clear e
      have hI := hO.ints (by omega)
      have c7 := below_then c bO
      go_wp2_with fail
      clear x0 x1 x2 hkk
      refine (tongue_has _ _ n i o (wordTo n seq) _ (by exact hv.below bO) (by exact hI) (hTab.below c7)).mono ?_
      rintro e w8 ⟨b, d, rfl, hH, b8⟩
      have HH : Hid _ := hH
      have b68 := below_then bO b8
      have c8 := below_then c b68
      clear hH hI hO hlen b8 c7 Hsml bO hkg
      by_cases hd1 : rd = 0
      · subst hd1
        by_cases hd2 : d = 0
        · subst hd2
          obtain ⟨x0, x1, x2⟩ := hbx.below b68
          go_wp2_with fail
          refine (shape_start _ n o _ (by exact hv.below b68)).mono ?_
          rintro e w9 ⟨r9, rfl, hr9, b9⟩
          have b69 := below_then b68 b9
          obtain ⟨a9, l9, c9_, rfl, _⟩ := id hr9
          clear x0 x1 x2
          go_wp2_with fail
          refine (equal_b _ _ rm (startL n.places o) _ (by exact hr6.below b69) (by exact hr9)).mono ?_
          rintro e w10 ⟨rfl, b10⟩
          have c10 := below_then c (below_then b69 b10)
          by_cases he : rm = startL n.places o
          · subst he
            obtain rfl := ask_runs HH.out rfl HR.out
            have E : (startL n.places o == startL n.places o) = true := by simp
            rw [E]
            clear E HH HR hr6 hr9 b9 b10 b69 b68 c8
            go_wp2
            go_ret
            exact ⟨rfl, c10⟩
          · have E : (rm == startL n.places o) = false := by simpa using he
            rw [E]
            clear E HH HR hr6 hr9 b9 b10 b69 b68 c8 he
            go_wp2
            go_ret
            exact ⟨rfl, c10⟩
        · have hd2' : (d != 0) = true := by simpa using hd2
          clear hd2 HH HR hr6
          go_wp2
          go_ret
          exact ⟨rfl, c8⟩
      · have hd1' : (rd != 0) = true := by simpa using hd1
        clear hd1 HH HR hr6
        go_wp2
        go_ret
        exact ⟨rfl, c8⟩

end Go.Proofs.YteoofibhpifmlaaDoor
