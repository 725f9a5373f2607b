/- Package text: what stands in a line. -/
import Derived.Test.YteeogdihaajicaaDoorTextDev1
import Derived.Test.YteeogdihaajicaaDoorRowAt
namespace Go.Proofs.YteeogdihaajicaaDoor
open Go.RowKit
set_option linter.unusedVariables false
set_option linter.unusedSimpArgs false
set_option maxRecDepth 4000

theorem cut_left (r : Bytes) : ∃ one rest more, Hid (r = one ++ leftT more rest) ∧ (32 : UInt8) ∉ one ∧ Hid (Lib.cut r [32] = (one, rest, more)) ∧ rest.length + (if more then 1 else 0) ≤ r.length := by
  rcases cut_one r 32 with ⟨a, r', e1, h32, e2⟩ | ⟨h32, e2⟩
  · exact ⟨a, r', true, e1, h32, e2, by rw [e1]; simp⟩
  · exact ⟨r, [], false, by show r = r ++ []; simp, h32, e2, by simp⟩

def WtsOut (s : Bytes) (P : Nat) (w w' : World) (e : Ending) : Prop :=
  (∃ a n c l, e = .returned (.tuple #[.slice a n c, .bool true]) ∧ SideIs P s l true ∧ On (fun k => w.heap.size ≤ k) w' (fun w2 => Ints w2 (.slice a n c) l)) ∨ (e = .returned (.tuple #[.slice none 0 0, .bool false]) ∧ SideIs P s [] false)

theorem row_out {w wr : World} {P : Nat} {l : List Int} (h : RowAt w.heap.size w wr P (nth l)) (hl : l.length = P) (hP : P ≤ 16) : On (fun k => w.heap.size ≤ k) wr (fun w2 => Ints w2 (.slice (some ⟨w.heap.size, 0, none⟩) P P) l) :=
  h.on hl (fun _ _ => rfl) (by omega) (Nat.le_refl _) (by omega)

set_option maxHeartbeats 4000000 in
theorem textWts_any (s : Bytes) (P : Nat) (w : World) (hv : VarM w) (hs : s.length < 4294967281) (hP : P ≤ 16) :
    Calls Tryd.prog 44 #[.string (bs s), .int .i64 P] w fun e w' => WtsOut s P w w' e ∧ Below w.heap.size w w' := by
  obtain ⟨w1, hmk, hR⟩ := make_intsZ w P (P : Int) rfl (by omega)
  have hR0 : RowAt w.heap.size w w1 P (nth (List.replicate P 0)) := hR.same fun j hj => by simp [nth, List.getD_eq_getElem?_getD, List.getElem?_replicate, hj]
  have b1 := hR.below
  clear hR
  go_enter Tryd.func44, Tryd.ntmps44
  by_cases h0 : s = []
  · subst h0
    have R : Hid (WtsOut [] P w w1 (.returned (.tuple #[.slice (some ⟨w.heap.size, 0, none⟩) P P, .bool true]))) := .inl ⟨_, _, _, _, rfl, side_empty P, row_out hR0 (by simp) hP⟩
    have n1 := bs_nil (a := []) rfl
    clear hR0
    go_wp2
    go_ret2
    exact ⟨R.out, b1⟩
  · have n1 := bs_nonnil h0
    obtain ⟨a, r, m, e1, h32, e2, hlen⟩ := cut_left s
    have hv1 := hv.below b1
    have hC := cut_any s [32] ⟨#[32]⟩ w1 rfl hv1 hs
    rw [e2.out] at hC
    simp only at hC
    go_upto_region 5 with (go_at_call 21; refine hC.mono ?_; rintro e w2 ⟨rfl, b2⟩)
    clear hC
    have hR2 := hR0.to b2
    by_cases ha : a = []
    · have n2 := bs_nil ha
      have hS : Side P s (List.replicate P 0) 0 (leftT m r) := by
        have := Side.start P s
        rw [show leftT m r = s by rw [e1.out, ha]; rfl]
        exact this
      clear hR0 hv1 b1 hmk h0 n1 ha
      go_wp2_with fail
      go_loopg [8, 9, 10] (r.length + if m then 1 else 0) (fun gk r8 r9 r10 wr => ∃ (rest : Bytes) (more : Bool) (least : Nat) (out : List Int), r8 = .string (bs rest) ∧ r9 = .bool more ∧ r10 = .int .i64 (least : Int) ∧ gk = rest.length + (if more then 1 else 0) ∧
        rest.length < 4294967281 ∧ RowAt w.heap.size w wr P (nth out) ∧ Side P s out least (leftT more rest))
      case atStart => exact ⟨r, m, 0, _, rfl, rfl, rfl, rfl, by omega, hR2, hS⟩
      case round =>
        clear hR2 hS hlen e1 e2 n2 h32
        obtain ⟨rest, more, least, out, rfl, rfl, rfl, hg, hlr, hR, hS⟩ := hrel
        have hO := row_out hR hS.ok.1 hP
        have bw := hR.below
        have hvr := hv.below bw
        cases more
        · have R : Hid (WtsOut s P w wr (.returned (.tuple #[.slice (some ⟨w.heap.size, 0, none⟩) P P, .bool true]))) := .inl ⟨_, _, _, _, rfl, hS.end_, hO⟩
          clear hO hS hR
          go_wp2
          go_ret2
          exact ⟨R.out, bw⟩
        · obtain ⟨one, rest2, more2, e1, h32, e2, hlen⟩ := cut_left rest
          have hC := cut_any rest [32] ⟨#[32]⟩ wr rfl hvr hlr
          rw [e2.out] at hC
          simp only at hC
          have hS1 : Side P s out least (32 :: (one ++ leftT more2 rest2)) := by have := hS; rw [e1.out] at this; exact this
          have hone : one.length < 4294967281 := by have := congrArg List.length e1.out; simp at this; omega
          have hW := fun w' (hb : Below wr.heap.size wr w') => weight_any one least P w' (hvr.below hb) hone hP hS1.le
          clear hO hS
          go_upto_region 11 with (go_at_call 21; refine hC.mono ?_; rintro e w3 ⟨rfl, b3⟩)
          clear hC
          go_upto_region 12 with (go_at_call 54; refine (hW _ b3).mono ?_; rintro e w4 ⟨⟨p, wt, ok, rfl, hI⟩, b4⟩)
          clear hW
          have b5 := below_then b3 b4
          have hR4 := hR.to b5
          cases ok
          · have R : Hid (WtsOut s P w w4 (.returned (.tuple #[.slice none 0 0, .bool false]))) := .inr ⟨rfl, hS1.fail h32 hI _⟩
            have bz := hR4.below
            clear hS1 hI hR hR4
            go_wp2
            go_ret2
            exact ⟨R.out, bz⟩
          · obtain ⟨q, rfl, hq⟩ : ∃ q : Nat, p = (q : Int) ∧ q < P := by
              rcases hI with ⟨_, q, e, _, hq, _⟩ | ⟨h, _⟩
              · exact ⟨q, e, hq⟩
              · cases h
            have hS2 := hS1.step (p := q) hI
            have hl1 := hS1.ok.1
            have hR5 := hR4.put (g := nth (out.set q wt)) hq (x := wt) (by simp [nth, List.getD_eq_getElem?_getD, List.getElem?_set_self, hl1, hq]) (fun j _ hj => by simp [nth, List.getD_eq_getElem?_getD, List.getElem?_set_ne (Ne.symm hj)])
            have c0 := hR4.cells q hq
            have c1 := hR4.frozen q hq
            have wq : IntKind.i64.wrap ((q : Int) + 1) = (((q + 1 : Nat)) : Int) := by rw [show ((q : Int) + 1) = ((q + 1 : Nat) : Int) by omega]; exact Go.IntWalk.i64_in _ ⟨by omega, by omega⟩
            have hqP : (q : Int) < (P : Int) := by omega
            clear hS1 hI hR hR4 hl1
            go_wp2_with fail
            go_roundg (rest2.length + if more2 then 1 else 0)
            case measure => rw [hg]; simp only [if_true]; omega
            case rel => exact ⟨rest2, more2, q + 1, _, rfl, rfl, by go_num, rfl, by omega, hR5, hS2⟩
    · have n2 := bs_nonnil ha
      have R : Hid (WtsOut s P w w2 (.returned (.tuple #[.slice none 0 0, .bool false]))) := .inr ⟨rfl, .inr ⟨rfl, side_ahead ha h32 _ e1.out⟩⟩
      have bz := hR2.below
      clear hR0 hR2
      go_wp2
      go_ret2
      exact ⟨R.out, bz⟩

end Go.Proofs.YteeogdihaajicaaDoor
