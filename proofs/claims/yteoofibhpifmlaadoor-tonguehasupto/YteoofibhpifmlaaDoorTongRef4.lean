/- The document's own answers for tongue: LLeast, walked. -/
import Derived.Test.YteoofibhpifmlaaDoorGr12
import Derived.Test.YteoofibhpifmlaaDoorGr18
import Derived.Test.YteoofibhpifmlaaDoorGr19
namespace Go.Proofs.YteoofibhpifmlaaDoor
open Go.RowKit Go.Shelf
set_option linter.unusedVariables false
set_option linter.unusedSimpArgs false
set_option maxRecDepth 4000

/-- What LLeast tells. -/
def LLeastIs (n : NetL) (i o : Int) (k d : Int) : Prop :=
  ∃ s a d0, Lsp n i o s a d0 ∧ (¬ d0 = 0 → k = 0 ∧ d = d0) ∧ (d0 = 0 → (d = 3 ∧ k = 0 ∧ ∀ ws, ¬ ToEnd n s (startL n.places o) 0 ws) ∨ (d = 0 ∧ ∃ ws, ToEnd n s (startL n.places o) 0 ws ∧ (ws.length : Int) = k ∧ ∀ ws', ToEnd n s (startL n.places o) 0 ws' → k ≤ ws'.length))
theorem lleast_of {n : NetL} {i o : Int} {s : SpaceL} {a : Int} {f : Nat → Int} (hL : Lsp n i o s a 0) (h : RelaxOk n s (fun m => m < s.marks.length ∧ markAt s.marks m = startL n.places o) f) (h1 : Done1 n s (fun m => m < s.marks.length ∧ markAt s.marks m = startL n.places o) s.marks.length f)
    (hA : ∀ a ∈ s.arcs, a.dst < s.marks.length) (h0 : 0 < s.marks.length) (hN : s.marks.length ≤ 300) : (farTop ≤ f 0 ∧ LLeastIs n i o 0 3) ∨ (f 0 < farTop ∧ LLeastIs n i o (f 0) 0) := by
  rcases relax_end h h1 hA h0 hN with ⟨q1, q2⟩ | ⟨q1, ⟨e, u, he, hw, hlen⟩, q3⟩
  · exact .inl ⟨q1, s, a, 0, hL, fun h => absurd rfl h, fun _ => .inl ⟨rfl, rfl, fun ws ⟨e, g1, g2, g3⟩ => q2 e ws ⟨g1, g2⟩ g3⟩⟩
  · exact .inr ⟨q1, s, a, 0, hL, fun h => absurd rfl h, fun _ => .inr ⟨rfl, u, ⟨e, he.1, he.2, hw⟩, hlen, fun ws' ⟨e', g1, g2, g3⟩ => q3 e' ws' ⟨g1, g2⟩ g3⟩⟩
/-- The first k numbers are laid. -/
def fillTo (k : Nat) : Nat → Int := fun m => if m < k then farTop else 0
/-- All are far, but for the end. -/
def fillEnd (a : Int) (N : Nat) : Nat → Int := fun m => if (m : Int) = a then 0 else farTop
theorem fillEnd_first {n : NetL} {s : SpaceL} {E : List Int} {a : Int} (hW : s.marks.Nodup) (hE : EndAt s.marks E s.marks.length a) : RelaxOk n s (fun m => m < s.marks.length ∧ markAt s.marks m = E) (fillEnd a s.marks.length) ∧ Done1 n s (fun m => m < s.marks.length ∧ markAt s.marks m = E) 0 (fillEnd a s.marks.length) := by
  refine relax_first n s _ _ (fun m hm => ?_) (fun m => ?_)
  · rcases hE with ⟨rfl, h⟩ | ⟨g, rfl, hg, h⟩
    · exact absurd hm.2 (h m hm.1)
    · obtain rfl : m = g := markAt_inj hW hm.1 hg (by rw [hm.2, h])
      simp [fillEnd]
  · unfold fillEnd
    split
    · rename_i e
      refine .inl ⟨?_, rfl⟩
      rcases hE with ⟨rfl, h⟩ | ⟨g, rfl, hg, h⟩
      · omega
      · obtain rfl : m = g := by omega
        exact ⟨hg, h⟩
    · exact .inr rfl

set_option maxRecDepth 100000 in
set_option maxHeartbeats 8000000 in
theorem lleast_any (v : Value) (n : NetL) (i o : Int) (w : World) (hv : Net w v n) (hsm : SmallNet n) :
    Calls Tryd.prog 9 #[v, .int .i64 i, .int .i64 o] w fun e w' => ∃ k d, e = .returned (.tuple #[.int .i64 k, .int .i64 d]) ∧ LLeastIs n i o k d ∧ Below w.heap.size w w' := by
  obtain ⟨tv, rfl, hT⟩ := hv
  have c := below_new w (.cells #[.int .i64 n.places, tv] 24)
  have hbx := box2_new w (.int .i64 n.places) tv 24
  have hv : Net (w.alloc (.cells #[.int .i64 n.places, tv] 24)) (.agg #[.int .i64 n.places, tv]) n := ⟨_, rfl, hT.below c⟩
  obtain ⟨w0, Hw0⟩ : ∃ w0, Hid (w.alloc (.cells #[.int .i64 n.places, tv] 24) = w0) := ⟨_, rfl⟩
  rw [Hw0.out] at c hbx hv
  replace hT := hT.below c
  obtain ⟨ta, tl, tc, rfl, htl, _, hts, _⟩ := id hT
  have Htl : Hid (n.trans.length = tl) := htl
  have htc1 : tl ≤ tc := hts.1
  have htc2 : tc ≤ 9223372036854775807 := hts.2.1
  clear htl hts
  obtain ⟨x0, x1, x2⟩ := id hbx
  go_enter Tryd.func9, Tryd.ntmps9
  go_upto_region 1 with fail
  rw [Hw0.out]
  clear Hw0
  go_wp2_with fail
  clear x0 x1 x2
  refine (lspace_any _ n i o _ (by exact hv) hsm).mono ?_
  rintro e w1 ⟨r, s, a, d, rfl, ⟨hSp, hL⟩, b1⟩
  have HL : Hid (Lsp n i o s a d) := hL
  clear hL
  obtain ⟨mv, av, rfl, hMk, hA⟩ := id hSp
  obtain ⟨am, cm, rfl, _, _⟩ := hMk.slice
  obtain ⟨aa, ca, rfl, hlab⟩ := hA.slice
  obtain ⟨N, HN⟩ : ∃ N, Hid (s.marks.length = N) := ⟨_, rfl⟩
  obtain ⟨la, Hla⟩ : ∃ la, Hid ((s.arcs.map arcZ).length = la) := ⟨_, rfl⟩
  rw [HN.out, Hla.out]
  rw [Hla.out] at hA hlab
  clear hMk hSp hv
  replace hbx := hbx.below b1
  replace hT := hT.below b1
  replace c := below_then c b1
  have bn := below_new w1 (.cells #[.slice am N cm, .slice aa la ca] 56)
  have hbs := box2_new w1 (.slice am N cm) (.slice aa la ca) 56
  obtain ⟨w2, Hw2⟩ : ∃ w2, Hid (w1.alloc (.cells #[.slice am N cm, .slice aa la ca] 56) = w2) := ⟨_, rfl⟩
  rw [Hw2.out] at bn hbs
  replace hA := hA.below bn
  replace hbx := hbx.below bn
  replace hT := hT.below bn
  replace c := below_then c bn
  clear b1 bn
  go_upto_region 2 with fail
  rw [Hw2.out]
  clear Hw2
  by_cases hd : d = 0
  · subst hd
    obtain ⟨hS, hG, hE⟩ : ShapeOk n i o ∧ graphL n (startL n.places i) 300 = (s, 0) ∧ EndAt s.marks (startL n.places o) s.marks.length a := by
      rcases HL.out with ⟨h, _⟩ | h
      · exact absurd rfl h
      · exact h
    have hW := graphL_whole hG
    have hN3 : s.marks.length ≤ 300 := by have := graphL_small n (startL n.places i) 300; rw [hG] at this; exact this
    have Hin : Hid (LeadIn n s) := lead_in hW hS.ok hN3
    have HR0 : Hid _ := fillEnd_first (n := n) hW.nodup hE
    have Hend : Hid (a = -1 ∨ ∃ g : Nat, a = g ∧ g < N) := by
      rcases hE with ⟨h, _⟩ | ⟨g, h1, h2, _⟩
      · exact .inl h
      · exact .inr ⟨g, h1, by rw [← HN.out]; exact h2⟩
    rw [HN.out] at hN3
    have hN0 : 0 < N := by have := Hin.out.some; have := HN.out; omega
    clear hS hG hE hW
    obtain ⟨y0, y1, y2⟩ := id hbs
    obtain ⟨w3, hmk, b3, hz3, hrow⟩ := make_introw w2 N hN3
    have HR1 : Hid (IntRow w3 w2.heap.size N (fillTo 0)) := hrow.same fun j hj => by simp [fillTo]
    have HB3 : Hid (Below w2.heap.size w2 w3) := b3
    obtain ⟨Bl, HBl⟩ : ∃ Bl, Hid (w2.heap.size = Bl) := ⟨_, rfl⟩
    rw [HBl.out] at hmk HR1
    go_wp2_with fail
    clear hmk b3 hz3 hrow y0 y1 y2
    go_loopg [32] N (fun g i wr => ∃ k : Nat, k + g = N ∧ i = .int .i64 k ∧ IntRow wr Bl N (fillTo k) ∧ Hid (Below w2.heap.size w2 wr))
    case atStart => exact ⟨0, by omega, rfl, HR1.out, HB3⟩
    case round =>
      clear HR1 HB3
      obtain ⟨k, hkg, rfl, hF, Hb⟩ := hrel
      by_cases hk : k < N
      · have e1 := hF.cells k hk
        have e2 := hF.frozen k hk
        have R : IntRow (wr.setCell ⟨Bl, k, none⟩ (.int .i64 1073741824)) Bl N (fillTo (k + 1)) := hF.put hk (by simp [fillTo, farTop]) (fun j hj hne => by unfold fillTo; by_cases q : j < k; rw [if_pos q, if_pos (by omega)]; rw [if_neg q, if_neg (by omega)])
        have Rb : Hid (Below w2.heap.size w2 (wr.setCell ⟨Bl, k, none⟩ (.int .i64 1073741824))) := Hb.out.setCell (p := ⟨Bl, k, none⟩) (by show _ ≤ Bl; rw [HBl.out]; exact Nat.le_refl _) _
        clear hF Hb
        go_wp2
        go_roundg (gk - 1)
        case measure => omega
        case rel => exact ⟨k + 1, by omega, by go_num, R, Rb⟩
      · obtain rfl : N = k := by omega
        have HF : Hid (IntRow wr Bl N (fillTo N)) := hF
        rcases Hend.out with ha | ⟨g, ha, hg⟩
        case' inl =>
          subst ha
          have hF9 : IntRow wr Bl N (fillEnd (-1) N) := HF.out.same fun j hj => by unfold fillTo fillEnd; rw [if_pos hj, if_neg (by omega)]
          have Hb9 : Hid (Below w2.heap.size w2 wr) := Hb
          clear HF hF Hend
          go_upto_region 12 with fail
          obtain ⟨wc0, hwc⟩ : ∃ x, x = wr := ⟨_, rfl⟩
          rw [← hwc] at hF9 Hb9 ⊢
          clear hwc
        case' inr =>
          subst ha
          have hg0 : decide ((g : Int) ≥ 0) = true := by rw [decide_eq_true_eq]; omega
          have e1 := HF.out.cells g hg
          have e2 := HF.out.frozen g hg
          have hF9 : IntRow (wr.setCell ⟨Bl, g, none⟩ (.int .i64 0)) Bl N (fillEnd g N) := HF.out.put hg (by simp [fillEnd]) (fun j hj hne => by unfold fillTo fillEnd; rw [if_pos hj, if_neg (by omega)])
          have Hb9 : Hid (Below w2.heap.size w2 (wr.setCell ⟨Bl, g, none⟩ (.int .i64 0))) := Hb.out.setCell (p := ⟨Bl, g, none⟩) (by show _ ≤ Bl; rw [HBl.out]; exact Nat.le_refl _) _
          clear HF hF Hend
          go_upto_region 12 with fail
          obtain ⟨wc0, Hwc⟩ : ∃ x, Hid (wr.setCell ⟨Bl, g, none⟩ (.int .i64 0) = x) := ⟨_, rfl⟩
          rw [Hwc.out] at hF9 Hb9 ⊢
          clear Hwc e1 e2 hg0
        all_goals
          clear Hb
          have Hb := Hb9
          clear Hb9
          obtain ⟨En, HEn⟩ : ∃ En : Nat → Prop, Hid ((fun m => m < s.marks.length ∧ markAt s.marks m = startL n.places o) = En) := ⟨_, rfl⟩
          have HR9 := HR0.out
          rw [HEn.out, HN.out] at HR9
          have HR : Hid (RelaxOk n s En _ ∧ Done1 n s En 0 _) := HR9
          clear HR9
          clear HR0
          have HF : Hid (IntRow wc0 Bl N _) := hF9
          clear hF9
          obtain ⟨y0, y1, y2⟩ := hbs.below Hb.out
          go_wp2_with fail
          clear y0 y1 y2
          go_loopg [47] N (fun g i wr => ∃ (r : Nat) (f : Nat → Int), r + g = N ∧ i = .int .i64 r ∧ IntRow wr Bl N f ∧ Hid (RelaxOk n s En f ∧ Done1 n s En r f) ∧ Hid (Below w2.heap.size w2 wr))
          case atStart => exact ⟨0, _, by omega, rfl, HF.out, HR, Hb⟩
          case round =>
            clear HF HR Hb
            obtain ⟨r, f, hrg, rfl, hF, HR, Hb⟩ := hrel
            obtain ⟨G, hGk⟩ : ∃ G, G = gk := ⟨_, rfl⟩
            subst hGk
            by_cases hr : r < N
            · have hr' : decide ((r : Int) < (N : Int)) = true := by rw [decide_eq_true_eq]; omega
              have HF : Hid (IntRow wr Bl N f) := hF
              have HR2 : Hid (RelaxOk n s En f ∧ Done1 n s En r f ∧ Done2 n s En r 0 f) := ⟨HR.out.1, HR.out.2, fun q _ h => absurd h (Nat.not_lt_zero _)⟩
              clear hF HR
              obtain ⟨y0, y1, y2⟩ := hbs.below Hb.out
              go_wp2_with fail
              clear y0 y1 y2
              go_loopg [52] la (fun g i wr => ∃ (p : Nat) (f : Nat → Int), p + g = la ∧ i = .int .i64 p ∧ IntRow wr Bl N f ∧ Hid (RelaxOk n s En f ∧ Done1 n s En r f ∧ Done2 n s En r p f) ∧ Hid (Below w2.heap.size w2 wr))
              case atStart => exact ⟨0, f, by omega, rfl, HF.out, HR2, Hb⟩
              case round =>
                clear HF HR2 Hb
                obtain ⟨p, f, hpg, rfl, hF, HR, Hb⟩ := hrel
                by_cases hp : p < la
                · have hp' : decide ((p : Int) < (la : Int)) = true := by rw [decide_eq_true_eq]; omega
                  have Hpl : Hid (p < s.arcs.length) := by have := Hla.out; rw [List.length_map] at this; show p < s.arcs.length; omega
                  obtain ⟨b1, o1, rfl, _, c0, c1, c2⟩ := (hA.below Hb.out).at (k := p) (by rw [Hla.out]; exact hp)
                  obtain ⟨A, HA⟩ : ∃ A, Hid (s.arcs[p]'Hpl.out = A) := ⟨_, rfl⟩
                  have hmem := List.getElem_mem Hpl.out
                  have r1 := Hin.out.frm _ hmem
                  have r2 := Hin.out.dst _ hmem
                  have r3 := Hin.out.tran _ hmem
                  have r4 := Hin.out.lab _ hmem
                  obtain ⟨x, k, y⟩ := A
                  rw [List.getElem_map, HA.out] at c0 c1 c2
                  rw [HA.out] at r1 r2 r3 r4
                  simp only [arcZ] at c0 c1 c2
                  simp only at r1 r2 r3 r4
                  have hx : x < N := by have := HN.out; omega
                  have hy : y < N := by have := HN.out; omega
                  have hkt : k < tl := by have := Htl.out; omega
                  obtain ⟨L, HLb⟩ : ∃ L, Hid (labT n k = L) := ⟨_, rfl⟩
                  rw [HLb.out] at r4
                  obtain ⟨bt, ot, p1, q1, rfl, hblt, h0, _, _, _, _⟩ := (hT.below Hb.out).at (k := k) hkt
                  have e0 : (tranAt n.trans k).label = L := HLb.out
                  rw [e0] at h0
                  clear r1 r2 r3 hmem e0
                  have bn := below_new wr (.cells #[.int .i64 x, .int .i64 k, .int .i64 y] 63)
                  have hb3 := box3_new wr (.int .i64 x) (.int .i64 k) (.int .i64 y) 63
                  have hlt1 : w.heap.size < w2.heap.size := hbx.1
                  obtain ⟨x0, x1, x2⟩ := (hbx.below Hb.out).below bn
                  have hF1 : IntRow (wr.alloc (.cells #[.int .i64 x, .int .i64 k, .int .i64 y] 63)) Bl N f := hF.keep bn.size (bn.block Bl hF.lt)
                  have h0' := (bn.cell (p := ⟨bt, ot + k * 3, none⟩) hblt).trans h0
                  have Hb1 : Hid (Below w2.heap.size w2 (wr.alloc (.cells #[.int .i64 x, .int .i64 k, .int .i64 y] 63))) := below_then Hb.out bn
                  have hBlw : w2.heap.size ≤ Bl := by rw [HBl.out]; exact Nat.le_refl _
                  obtain ⟨B7, HB7⟩ : ∃ B7, Hid (wr.heap.size = B7) := ⟨_, rfl⟩
                  have hB7 : Bl < B7 := by rw [← HB7.out]; exact hF.lt
                  have hbtl : bt < w2.heap.size := by
                    obtain ⟨bt', ot', _, _, e, hlt', _⟩ := hT.at (k := k) hkt
                    injection e with e
                    injection e with e1 e2
                    omega
                  obtain ⟨w7, Hw7⟩ : ∃ w7, Hid (wr.alloc (.cells #[.int .i64 x, .int .i64 k, .int .i64 y] 63) = w7) := ⟨_, rfl⟩
                  rw [Hw7.out] at hb3 hF1 h0' Hb1 x0 x1 x2
                  rw [HB7.out] at hb3
                  clear hF bn h0
                  have hc1 : (if (1 : Int) < L then 1 else L) = lenOf L := by unfold lenOf; by_cases q : L = 0; subst q; rfl; rw [if_neg q]; split <;> omega
                  obtain ⟨cc, Hcc⟩ : ∃ cc, Hid (lenOf L = cc) := ⟨_, rfl⟩
                  rw [Hcc.out] at hc1
                  have hccb : 0 ≤ cc ∧ cc ≤ 1 := by rw [← Hcc.out]; unfold lenOf; split <;> omega
                  have hfy := HR.out.1.low y
                  have hfy2 : f y ≤ 1073741824 := HR.out.1.top y
                  have hwrap : IntKind.i64.wrap (f y + cc) = f y + cc := by rw [IntKind.wrap_i64]; omega
                  obtain ⟨t, Ht⟩ : ∃ t, Hid ((if f y + cc < f x then f y + cc else f x) = t) := ⟨_, rfl⟩
                  have HSt : Hid (RelaxOk n s En (updI f x t) ∧ Done1 n s En r (updI f x t) ∧ Done2 n s En r (p + 1) (updI f x t)) := by
                    have ht := Ht.out
                    refine HR.out.1.step (a := ⟨x, k, y⟩) HR.out.2.1 HR.out.2.2 Hpl.out HA.out ?_
                    simp only
                    rw [HLb.out, Hcc.out]
                    split at ht
                    · exact .inr ⟨ht.symm, by omega⟩
                    · exact .inl ⟨ht.symm, by omega⟩
                  obtain ⟨z0, z1, z2, z3⟩ := id hb3
                  have Hall : Hid (∀ w' : World, Below w7.heap.size w7 w' → (fun w' => w'.cell? ⟨B7, 0, none⟩ = some (.int .i64 (x : Int)) ∧ w'.cell? ⟨B7, 1, none⟩ = some (.int .i64 (k : Int)) ∧ w'.cell? ⟨B7, 2, none⟩ = some (.int .i64 (y : Int)) ∧ w'.cell? ⟨Bl, y, none⟩ = some (.int .i64 (f y)) ∧ w'.cell? ⟨w.heap.size, 1, none⟩ = some (.slice (some ⟨bt, ot, none⟩) tl tc) ∧ w'.cell? ⟨bt, ot + k * 3, none⟩ = some (.int .i64 L)) w') := fun w' hb => ⟨(hb.cell (p := ⟨B7, 0, none⟩) z0).trans z1, (hb.cell (p := ⟨B7, 1, none⟩) z0).trans z2, (hb.cell (p := ⟨B7, 2, none⟩) z0).trans z3, (hb.cell (p := ⟨Bl, y, none⟩) hF1.lt).trans (hF1.cells y hy), (hb.cell (p := ⟨w.heap.size, 1, none⟩) x0).trans x2, (hb.cell (p := ⟨bt, ot + k * 3, none⟩) (by have := Hb1.out.size; show bt < _; omega)).trans h0'⟩
                  have HneB : Hid (B7 ≠ Bl ∧ w.heap.size ≠ Bl ∧ bt ≠ Bl) := ⟨by omega, by omega, by omega⟩
                  go_upto_region 17 with fail
                  rw [Hw7.out, HB7.out]
                  clear Hw7 c0 c1 c2 z0 z1 z2 z3 x0 x1 x2 h0'
                  refine wp_region_held_drew (S := (fun w' => w'.cell? ⟨B7, 0, none⟩ = some (.int .i64 (x : Int)) ∧ w'.cell? ⟨B7, 1, none⟩ = some (.int .i64 (k : Int)) ∧ w'.cell? ⟨B7, 2, none⟩ = some (.int .i64 (y : Int)) ∧ w'.cell? ⟨Bl, y, none⟩ = some (.int .i64 (f y)) ∧ w'.cell? ⟨w.heap.size, 1, none⟩ = some (.slice (some ⟨bt, ot, none⟩) tl tc) ∧ w'.cell? ⟨bt, ot + k * 3, none⟩ = some (.int .i64 L))) (by kernel_rfl) (Hall.out _ (Below.refl _ _).drew) (fun hH => ?_)
                  refine wpAnyH_take (i := 0) (v := .slice (some ⟨Bl, 0, none⟩) N N) rfl (by kernel_rfl) (by kernel_rfl) (by kernel_rfl) (fun _ _ _ h => h) (.inl ⟨by rfl, fun _ _ => rfl⟩) hH ?_
                  simp only [List.getElem_toArray, List.getElem_cons_succ, List.getElem_cons_zero, Act.put, List.setIfInBounds_toArray, List.set_cons_zero, List.set_cons_succ]
                  refine wpAnyH_take (i := 1) (v := .pointer (some ⟨B7, 0, none⟩)) rfl (by kernel_rfl) (by kernel_rfl) (by kernel_rfl) (fun _ _ _ h => h) (.inl ⟨by rfl, fun w' hS' => by first | (go_simp; done) | (go_simp; rfl) | (go_simp; intro h; omega)⟩) hH ?_
                  simp only [List.getElem_toArray, List.getElem_cons_succ, List.getElem_cons_zero, Act.put, List.setIfInBounds_toArray, List.set_cons_zero, List.set_cons_succ]
                  refine wpAnyH_take (i := 2) (v := .int .i64 (x : Int)) rfl (by kernel_rfl) (by kernel_rfl) (by kernel_rfl) (fun _ _ _ h => h) (.inl ⟨by rfl, fun w' hS' => by obtain ⟨g0, g1, g2, g3, g4, g5⟩ := hS'; go_simp⟩) hH ?_
                  simp only [List.getElem_toArray, List.getElem_cons_succ, List.getElem_cons_zero, Act.put, List.setIfInBounds_toArray, List.set_cons_zero, List.set_cons_succ]
                  refine wpAnyH_take (i := 3) (v := .slice (some ⟨Bl, 0, none⟩) N N) rfl (by kernel_rfl) (by kernel_rfl) (by kernel_rfl) (fun _ _ _ h => h) (.inl ⟨by rfl, fun _ _ => rfl⟩) hH ?_
                  simp only [List.getElem_toArray, List.getElem_cons_succ, List.getElem_cons_zero, Act.put, List.setIfInBounds_toArray, List.set_cons_zero, List.set_cons_succ]
                  refine wpAnyH_take (i := 4) (v := .pointer (some ⟨B7, 0, none⟩)) rfl (by kernel_rfl) (by kernel_rfl) (by kernel_rfl) (fun _ _ _ h => h) (.inl ⟨by rfl, fun w' hS' => by first | (go_simp; done) | (go_simp; rfl) | (go_simp; intro h; omega)⟩) hH ?_
                  simp only [List.getElem_toArray, List.getElem_cons_succ, List.getElem_cons_zero, Act.put, List.setIfInBounds_toArray, List.set_cons_zero, List.set_cons_succ]
                  refine wpAnyH_take (i := 5) (v := .int .i64 (x : Int)) rfl (by kernel_rfl) (by kernel_rfl) (by kernel_rfl) (fun _ _ _ h => h) (.inl ⟨by rfl, fun w' hS' => by obtain ⟨g0, g1, g2, g3, g4, g5⟩ := hS'; go_simp⟩) hH ?_
                  simp only [List.getElem_toArray, List.getElem_cons_succ, List.getElem_cons_zero, Act.put, List.setIfInBounds_toArray, List.set_cons_zero, List.set_cons_succ]
                  refine wpAnyH_take (i := 6) (v := .pointer (some ⟨Bl, x, none⟩)) rfl (by kernel_rfl) (by kernel_rfl) (by kernel_rfl) (fun _ _ _ h => h) (.inl ⟨by rfl, fun w' hS' => by first | (go_simp; done) | (go_simp; rfl) | (go_simp; intro h; omega)⟩) hH ?_
                  simp only [List.getElem_toArray, List.getElem_cons_succ, List.getElem_cons_zero, Act.put, List.setIfInBounds_toArray, List.set_cons_zero, List.set_cons_succ]
                  refine wpAnyH_take (i := 8) (v := .slice (some ⟨Bl, 0, none⟩) N N) rfl (by kernel_rfl) (by kernel_rfl) (by kernel_rfl) (fun _ _ _ h => h) (.inl ⟨by rfl, fun _ _ => rfl⟩) hH ?_
                  simp only [List.getElem_toArray, List.getElem_cons_succ, List.getElem_cons_zero, Act.put, List.setIfInBounds_toArray, List.set_cons_zero, List.set_cons_succ]
                  refine wpAnyH_take (i := 9) (v := .pointer (some ⟨B7, 2, none⟩)) rfl (by kernel_rfl) (by kernel_rfl) (by kernel_rfl) (fun _ _ _ h => h) (.inl ⟨by rfl, fun w' hS' => by first | (go_simp; done) | (go_simp; rfl) | (go_simp; intro h; omega)⟩) hH ?_
                  simp only [List.getElem_toArray, List.getElem_cons_succ, List.getElem_cons_zero, Act.put, List.setIfInBounds_toArray, List.set_cons_zero, List.set_cons_succ]
                  refine wpAnyH_take (i := 10) (v := .int .i64 (y : Int)) rfl (by kernel_rfl) (by kernel_rfl) (by kernel_rfl) (fun _ _ _ h => h) (.inl ⟨by rfl, fun w' hS' => by obtain ⟨g0, g1, g2, g3, g4, g5⟩ := hS'; go_simp⟩) hH ?_
                  simp only [List.getElem_toArray, List.getElem_cons_succ, List.getElem_cons_zero, Act.put, List.setIfInBounds_toArray, List.set_cons_zero, List.set_cons_succ]
                  refine wpAnyH_take (i := 11) (v := .pointer (some ⟨Bl, y, none⟩)) rfl (by kernel_rfl) (by kernel_rfl) (by kernel_rfl) (fun _ _ _ h => h) (.inl ⟨by rfl, fun w' hS' => by first | (go_simp; done) | (go_simp; rfl) | (go_simp; intro h; omega)⟩) hH ?_
                  simp only [List.getElem_toArray, List.getElem_cons_succ, List.getElem_cons_zero, Act.put, List.setIfInBounds_toArray, List.set_cons_zero, List.set_cons_succ]
                  refine wpAnyH_take (i := 12) (v := .int .i64 (f y)) rfl (by kernel_rfl) (by kernel_rfl) (by kernel_rfl) (fun _ _ _ h => h) (.inl ⟨by rfl, fun w' hS' => by obtain ⟨g0, g1, g2, g3, g4, g5⟩ := hS'; go_simp⟩) hH ?_
                  simp only [List.getElem_toArray, List.getElem_cons_succ, List.getElem_cons_zero, Act.put, List.setIfInBounds_toArray, List.set_cons_zero, List.set_cons_succ]
                  refine wpAnyH_take (i := 13) (v := .pointer (some ⟨w.heap.size, 1, none⟩)) rfl (by kernel_rfl) (by kernel_rfl) (by kernel_rfl) (fun _ _ _ h => h) (.inl ⟨by rfl, fun w' hS' => by first | (go_simp; done) | (go_simp; rfl) | (go_simp; intro h; omega)⟩) hH ?_
                  simp only [List.getElem_toArray, List.getElem_cons_succ, List.getElem_cons_zero, Act.put, List.setIfInBounds_toArray, List.set_cons_zero, List.set_cons_succ]
                  refine wpAnyH_take (i := 14) (v := .slice (some ⟨bt, ot, none⟩) tl tc) rfl (by kernel_rfl) (by kernel_rfl) (by kernel_rfl) (fun _ _ _ h => h) (.inl ⟨by rfl, fun w' hS' => by obtain ⟨g0, g1, g2, g3, g4, g5⟩ := hS'; go_simp⟩) hH ?_
                  simp only [List.getElem_toArray, List.getElem_cons_succ, List.getElem_cons_zero, Act.put, List.setIfInBounds_toArray, List.set_cons_zero, List.set_cons_succ]
                  refine wpAnyH_take (i := 15) (v := .pointer (some ⟨B7, 1, none⟩)) rfl (by kernel_rfl) (by kernel_rfl) (by kernel_rfl) (fun _ _ _ h => h) (.inl ⟨by rfl, fun w' hS' => by first | (go_simp; done) | (go_simp; rfl) | (go_simp; intro h; omega)⟩) hH ?_
                  simp only [List.getElem_toArray, List.getElem_cons_succ, List.getElem_cons_zero, Act.put, List.setIfInBounds_toArray, List.set_cons_zero, List.set_cons_succ]
                  refine wpAnyH_take (i := 16) (v := .int .i64 (k : Int)) rfl (by kernel_rfl) (by kernel_rfl) (by kernel_rfl) (fun _ _ _ h => h) (.inl ⟨by rfl, fun w' hS' => by obtain ⟨g0, g1, g2, g3, g4, g5⟩ := hS'; go_simp⟩) hH ?_
                  simp only [List.getElem_toArray, List.getElem_cons_succ, List.getElem_cons_zero, Act.put, List.setIfInBounds_toArray, List.set_cons_zero, List.set_cons_succ]
                  refine wpAnyH_take (i := 17) (v := .pointer (some ⟨bt, ot + k * 3, none⟩)) rfl (by kernel_rfl) (by kernel_rfl) (by kernel_rfl) (fun _ _ _ h => h) (.inl ⟨by rfl, fun w' hS' => by first | (go_simp; done) | (go_simp; rfl) | (go_simp; intro h; omega)⟩) hH ?_
                  simp only [List.getElem_toArray, List.getElem_cons_succ, List.getElem_cons_zero, Act.put, List.setIfInBounds_toArray, List.set_cons_zero, List.set_cons_succ]
                  refine wpAnyH_take (i := 18) (v := .pointer (some ⟨bt, ot + k * 3, none⟩)) rfl (by kernel_rfl) (by kernel_rfl) (by kernel_rfl) (fun _ _ _ h => h) (.inl ⟨by rfl, fun w' hS' => by first | (go_simp; done) | (go_simp; rfl) | (go_simp; intro h; omega)⟩) hH ?_
                  simp only [List.getElem_toArray, List.getElem_cons_succ, List.getElem_cons_zero, Act.put, List.setIfInBounds_toArray, List.set_cons_zero, List.set_cons_succ]
                  refine wpAnyH_take (i := 19) (v := .int .i64 L) rfl (by kernel_rfl) (by kernel_rfl) (by kernel_rfl) (fun _ _ _ h => h) (.inl ⟨by rfl, fun w' hS' => by obtain ⟨g0, g1, g2, g3, g4, g5⟩ := hS'; go_simp⟩) hH ?_
                  simp only [List.getElem_toArray, List.getElem_cons_succ, List.getElem_cons_zero, Act.put, List.setIfInBounds_toArray, List.set_cons_zero, List.set_cons_succ]
                  refine wpAnyH_take (i := 20) (v := .int .i64 cc) rfl (by kernel_rfl) (by kernel_rfl) (by kernel_rfl) (fun _ _ _ h => h) (.inl ⟨by rfl, fun w' hS' => by first | (go_simp; done) | (go_simp; rfl) | (go_simp; intro h; omega)⟩) hH ?_
                  simp only [List.getElem_toArray, List.getElem_cons_succ, List.getElem_cons_zero, Act.put, List.setIfInBounds_toArray, List.set_cons_zero, List.set_cons_succ]
                  refine wpAnyH_take (i := 21) (v := .int .i64 (f y + cc)) rfl (by kernel_rfl) (by kernel_rfl) (by kernel_rfl) (fun _ _ _ h => h) (.inl ⟨by rfl, fun w' hS' => by first | (go_simp; done) | (go_simp; rfl) | (go_simp; intro h; omega)⟩) hH ?_
                  simp only [List.getElem_toArray, List.getElem_cons_succ, List.getElem_cons_zero, Act.put, List.setIfInBounds_toArray, List.set_cons_zero, List.set_cons_succ]
                  have hdr : Below w7.heap.size w7 w7.drew := (Below.refl _ _).drew
                  have hdz : w7.drew.heap = w7.heap := rfl
                  obtain ⟨wq, Hwq⟩ : ∃ wq, Hid (w7.drew = wq) := ⟨_, rfl⟩
                  rw [Hwq.out] at hdr hdz ⊢
                  clear Hwq
                  have hF2 : IntRow wq Bl N f := hF1.keep hdr.size (hdr.block Bl hF1.lt)
                  have o0 := hF2.cells x hx
                  have f0 := hF2.frozen x hx
                  refine wpAnyH_ready (rs := [7]) (by kernel_rfl) (by simp) ?_
                  refine AllReadyH.cons rfl (fun K hK => ?_) AllReadyH.nil
                  simp only [List.getElem_toArray, List.getElem_cons_succ, List.getElem_cons_zero]
                  rw [if_pos (by rfl)]
                  go_wp2_with fail
                  refine hK.out _ _ (Hall.out _ hdr) (fun hH => ?_)
                  have ht1 := Ht.out
                  refine wpAnyH_take (i := 22) (v := .int .i64 t) rfl (by kernel_rfl) (by kernel_rfl) (by kernel_rfl) (fun _ _ _ h => h) (.inl ⟨by rfl, fun w' hS' => by first | (go_simp; done) | (go_simp; rfl) | (go_simp; intro h; omega)⟩) hH ?_
                  simp only [List.getElem_toArray, List.getElem_cons_succ, List.getElem_cons_zero, Act.put, List.setIfInBounds_toArray, List.set_cons_zero, List.set_cons_succ]
                  refine wpAnyH_take (i := 23) (v := .pointer (some ⟨Bl, x, none⟩)) rfl (by kernel_rfl) (by kernel_rfl) (by kernel_rfl) (fun _ _ _ h => h) (.inl ⟨by rfl, fun w' hS' => by first | (go_simp; done) | (go_simp; rfl) | (go_simp; intro h; omega)⟩) hH ?_
                  simp only [List.getElem_toArray, List.getElem_cons_succ, List.getElem_cons_zero, Act.put, List.setIfInBounds_toArray, List.set_cons_zero, List.set_cons_succ]
                  clear ht1
                  refine wpAnyH_ready (rs := [24]) (by kernel_rfl) (by simp) ?_
                  refine AllReadyH.cons rfl (fun K hK => ?_) AllReadyH.nil
                  simp only [List.getElem_toArray, List.getElem_cons_succ, List.getElem_cons_zero]
                  rw [if_pos (by rfl)]
                  go_wp2_with fail
                  have hR5 : IntRow (wq.setCell ⟨Bl, x, none⟩ (.int .i64 t)) Bl N (updI f x t) := hF2.put hx (updI_same f x t) (fun j hj hne => updI_other f t hne)
                  have hB5 : Below w2.heap.size w2 (wq.setCell ⟨Bl, x, none⟩ (.int .i64 t)) := (Hb1.out.trans (hdr.mono Hb1.out.size)).setCell (p := ⟨Bl, x, none⟩) hBlw _
                  have ho5 : ∀ i, i ≠ Bl → (wq.setCell ⟨Bl, x, none⟩ (.int .i64 t)).heap[i]? = w7.heap[i]? := fun i hi => (Below.heap_setCell _ _ _ _ (by exact hi)).trans (by rw [hdz])
                  have hz5 : (wq.setCell ⟨Bl, x, none⟩ (.int .i64 t)).heap.size = w7.heap.size := by simp [World.setCell, hdz]
                  have hcy : (wq.setCell ⟨Bl, x, none⟩ (.int .i64 t)).cell? ⟨Bl, y, none⟩ = some (.int .i64 (f y)) := by
                    rw [hR5.cells y hy]
                    by_cases e : y = x
                    · subst e
                      rw [updI_same]
                      have h9 := Ht.out
                      rw [if_neg (by omega)] at h9
                      rw [h9]
                    · rw [updI_other _ _ e]
                  have hS0 := Hall.out w7 (Below.refl _ _)
                  obtain ⟨W5, HW5⟩ : ∃ W5, Hid (wq.setCell ⟨Bl, x, none⟩ (.int .i64 t) = W5) := ⟨_, rfl⟩
                  rw [HW5.out] at hR5 hB5 ho5 hz5 hcy ⊢
                  have hcell : ∀ (b j : Nat), b ≠ Bl → W5.cell? ⟨b, j, none⟩ = w7.cell? ⟨b, j, none⟩ := fun b j hb => by simp only [World.cell?]; rw [ho5 b hb]
                  refine hK.out _ _ ⟨(hcell _ _ HneB.out.1).trans hS0.1, (hcell _ _ HneB.out.1).trans hS0.2.1, (hcell _ _ HneB.out.1).trans hS0.2.2.1, hcy, (hcell _ _ HneB.out.2.1).trans hS0.2.2.2.2.1, (hcell _ _ HneB.out.2.2).trans hS0.2.2.2.2.2⟩ (fun hH => ?_)
                  refine wpAnyH_done (by kernel_rfl) ?_ _
                  have HB5 : Hid _ := hB5
                  clear hF1 hF2 Hall hH o0 f0 HW5 ho5 hz5 hcy hS0 hcell hB5 hb3 hdr hc1 hwrap HR Hb Hb1
                  go_wp2
                  go_roundg (gk - 1)
                  case measure => omega
                  case rel => exact ⟨p + 1, _, by omega, by go_num, hR5, HSt, HB5⟩
                · obtain rfl : la = p := by omega
                  have R : Hid (RelaxOk n s En f ∧ Done1 n s En (r + 1) f) := ⟨HR.out.1, done_next HR.out.2.1 HR.out.2.2 (by have := Hla.out; rw [List.length_map] at this; omega)⟩
                  clear HR
                  go_wp2
                  go_roundg (G - 1)
                  case measure => omega
                  case rel => exact ⟨r + 1, f, by omega, by go_num, hF, R, Hb⟩
            · obtain rfl : N = r := by omega
              have hkk : decide ((N : Int) < (N : Int)) = false := by simp
              have R : Hid ((farTop ≤ f 0 ∧ LLeastIs n i o 0 3) ∨ (f 0 < farTop ∧ LLeastIs n i o (f 0) 0)) := by
                have h1 := HR.out
                rw [← HEn.out, ← HN.out] at h1
                exact lleast_of HL.out h1.1 h1.2 Hin.out.dst Hin.out.some Hin.out.few
              have e1 := hF.cells 0 hN0
              have c9 := below_then c Hb.out
              clear HR hF Hb hr
              rcases R.out with ⟨q1, q2⟩ | ⟨q1, q2⟩
              · have g1 : decide (f 0 ≥ 1073741824) = true := by rw [decide_eq_true_eq]; exact q1
                have Q : Hid (LLeastIs n i o 0 3) := q2
                clear q1 q2 R
                go_wp2
                go_ret2
                exact ⟨0, 3, rfl, Q.out, c9⟩
              · have g1 : decide (f 0 ≥ 1073741824) = false := by rw [decide_eq_false_iff_not]; unfold farTop at q1; omega
                have Q : Hid (LLeastIs n i o (f 0) 0) := q2
                clear q1 q2 R
                go_wp2
                go_ret2
                exact ⟨f 0, 0, rfl, Q.out, c9⟩
  · have hd' : (d != 0) = true := by simpa using hd
    have R : LLeastIs n i o 0 d := ⟨s, a, d, HL.out, fun _ => ⟨rfl, rfl⟩, fun h => absurd h hd⟩
    clear HL
    go_wp2
    go_ret2
    exact ⟨0, d, rfl, R, c⟩

end Go.Proofs.YteoofibhpifmlaaDoor
