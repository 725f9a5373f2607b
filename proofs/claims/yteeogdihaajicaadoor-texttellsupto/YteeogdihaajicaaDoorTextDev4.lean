/- Package text: Parse. (Made by tools/gen_textparse.py.) -/
import Derived.Test.YteeogdihaajicaaDoorTextDev3
import Derived.Deep.DeepCutAuto
import Derived.BigRegion
namespace Go.Proofs.YteeogdihaajicaaDoor
open Go.RowKit
set_option linter.unusedVariables false
set_option linter.unusedSimpArgs false
set_option maxRecDepth 4000

theorem wp_append_tran_at {ops : Array Oper} {rest : List Oper} {o : Oper} {a : Act} {Q : Exit → Act → World → Prop} (hgd : o.guard = none) (s x : Operand)
    (ho : o.op = .call { callee := .builtin .append, args := #[s, x], argTypes := #[22, 22] }) (B : Nat) (wr : World) (v : Value) (tv : List (Int × Value × Value))
    (l : Int) (a1 a2 : Option Addr) (l1 l2 p1 p2 : Nat) (hown : wr.ownsRow B 43 3 v tv.length (tvCells tv))
    (hs : a.eval s = v) (hx : a.eval x = .slice (some ⟨wr.heap.size, 0, none⟩) 1 1) (hl : tv.length + 1 ≤ 2513169434916) (hB : B ≤ wr.heap.size)
    (h : ∀ v' w', w'.ownsRow B 43 3 v' (tv ++ [(l, Value.slice a1 l1 p1, Value.slice a2 l2 p2)]).length (tvCells (tv ++ [(l, Value.slice a1 l1 p1, Value.slice a2 l2 p2)])) → (wr.alloc (.cells #[.int .i64 l, .slice a1 l1 p1, .slice a2 l2 p2] 43)).grownBy w' v.ownBlock →
      (v'.ownBlock = v.ownBlock ∨ v'.ownBlock = some (wr.alloc (.cells #[.int .i64 l, .slice a1 l1 p1, .slice a2 l2 p2] 43)).heap.size) → wpList Tryd.prog ops Q rest (a.put o.dst v') w') :
    wpList Tryd.prog ops Q (o :: rest) a (wr.alloc (.cells #[.int .i64 l, .slice a1 l1 p1, .slice a2 l2 p2] 43)) := by
  obtain ⟨i0, hi, hz0, hz1, hz2⟩ := info_parts info_tran
  refine wpList_append_own_at _ hgd s x 22 ho B 43 i0 _ 3 56 Tryd.underlying22 hi hz0 hz1 hz2 rfl (by decide) v tv.length _ hs (hown.alloc _) ⟨wr.heap.size, 0, none⟩ 1 1 [.int .i64 l, .slice a1 l1 p1, .slice a2 l2 p2] hx rfl ?_ ?_ ?_ ?_ ?_ ?_
  · intro j u hj
    rw [addr_add, World.cell?_alloc_at _ _ _ _ rfl]
    match j, hj with
    | 0, hj => simpa using hj
    | 1, hj => simpa using hj
    | 2, hj => simpa using hj
  · intro u hu
    simp only [List.mem_cons, List.not_mem_nil, or_false] at hu
    rcases hu with rfl | rfl | rfl <;> rfl
  · unfold maxLen; omega
  · omega
  · simp; omega
  · intro v' w' h1 h2 _ h3
    refine h v' w' ?_ h2 h3
    rw [tvCells_append, List.length_append]
    exact h1

theorem results_net2 {fn : Func} {p u t : Tmp} {tmps : Array Value} {w : World} {b : Nat} {x y v z : Value} (h : fn.results = #[.cell p 24, .tmp u, .tmp t]) (hp : tmps.getD p undef = .pointer (some ⟨b, 0, none⟩)) (hu : tmps.getD u undef = v) (ht : tmps.getD t undef = z) (h1 : w.cell? ⟨b, 0, none⟩ = some x) (h2 : w.cell? ⟨b, 1, none⟩ = some y) :
    (results fn tmps).run Tryd.prog w = .ok (.tuple #[.agg #[x, y], v, z]) w := by
  have e : (results fn tmps).run Tryd.prog w = ((asAddr (tmps.getD p undef)).run Tryd.prog w).andThen fun a w₁ => ((loadVar 24 a).run Tryd.prog w₁).andThen fun v w₂ => .ok (.tuple #[v, tmps.getD u undef, tmps.getD t undef]) w₂ := by
    simp only [results, h]
    simp [Sem.run_bind, Result.andThen]
  rw [e, hp, hu, ht]
  simp [asAddr, go_sem, h1, h2]
theorem box2_set {w : World} {b : Nat} {x y : Value} (h : Box2 w b x y) (x' y' : Value) : Box2 ((w.setCell ⟨b, 0, none⟩ x').setCell ⟨b, 1, none⟩ y') b x' y' := by
  obtain ⟨h0, h1, h2⟩ := h
  refine ⟨by simpa [World.setCell] using h0, ?_, ?_⟩
  · rw [World.cell?_setCell_other _ _ _ _ (by intro q; injection q with _ q; omega)]
    exact World.cell?_setCell_same _ _ _ h1
  · exact World.cell?_setCell_same _ _ _ (by rw [World.cell?_setCell_other _ _ _ _ (by intro q; injection q with _ q; omega)]; exact h2)

/-- What a reader of texts answers. -/
def ParseOut (s : Bytes) (w' : World) (e : Ending) : Prop := ∃ v n k d, e = .returned (.tuple #[v, .int .i64 k, .int .i64 d]) ∧ Net w' v n ∧ ParseIs s n k d
theorem net_none (w : World) : Net w (.agg #[.int .i64 0, .slice none 0 0]) ⟨0, []⟩ := ⟨_, rfl, none, 0, 0, rfl, rfl, by omega, ⟨Nat.le_refl _, by omega, fun _ => rfl⟩, fun j hj => absurd hj (Nat.not_lt_zero _)⟩
theorem parse_no {s : Bytes} {w' : World} {k : Int} (h : BadT s k) : ParseOut s w' (.returned (.tuple #[.agg #[.int .i64 0, .slice none 0 0], .int .i64 k, .int .i64 1])) := ⟨_, _, _, _, rfl, net_none _, .inr ⟨rfl, rfl, h⟩⟩

/-- The first line. -/
theorem first_bad1 {s : Bytes} (h : (10 : UInt8) ∉ s) : BadT s 0 := .inl ⟨rfl, fun P r hP e => h (by rw [e]; simp)⟩
theorem first_bad2 {s a r : Bytes} {n : Int} (h : (10 : UInt8) ∉ a) (hs : s = a ++ 10 :: r) (hn : FirstIs a n false) : BadT s 0 := by
  refine .inl ⟨rfl, fun P r' hP e => ?_⟩
  rw [hs] at e
  obtain ⟨e1, _⟩ := part10 h (first_no10 (by omega)) e
  rcases hn with ⟨q, _⟩ | ⟨_, q⟩
  · cases q
  · exact q P (by omega) (by omega) e1
theorem first_good {s a r : Bytes} {n : Int} (hs : s = a ++ 10 :: r) (hn : FirstIs a n true) : ∃ P : Nat, n = (P : Int) ∧ P ≤ 16 ∧ Lines s P [] r := by
  rcases hn with ⟨_, h1, h2, h3⟩ | ⟨q, _⟩
  · refine ⟨n.toNat, by omega, by omega, by omega, (fun t ht => by cases ht), by simp, ?_⟩
    rw [hs, h3, show ((n.toNat : Nat) : Int) = n by omega]
    rfl
  · cases q
theorem NetOut.afterA {x : Nat} {p : Int} {w0 w6 w7 : World} {us : List TranL} {ov : Value} {tv : List (Int × Value × Value)} (h : NetOut x p w0 w6 us ov tv) (o : Obj) (hg : (w6.alloc o).grownBy w7 ov.ownBlock) : w7.cell? ⟨x, 1, none⟩ = some ov ∧ w7.frozen? ⟨x, 1, none⟩ = false := by
  have hx : x < w6.heap.size := h.size
  have g := h.to (below_new w6 o)
  have hxr : some x ≠ ov.ownBlock := fun e => by have := ownsRow_lt h.own e.symm; omega
  have hcx := hg.block x (by simp; omega) hxr
  exact ⟨(World.cell?_of_block (a := ⟨x, 1, none⟩) hcx).trans g.c1, (World.frozen?_of_block (a := ⟨x, 1, none⟩) hcx).trans g.f1⟩
section
variable {s R : Bytes} {P : Nat} {ts : List TranL}
theorem Lines.bad1 (h : Lines s P ts R) (hR : R ≠ []) (h10 : (10 : UInt8) ∉ R) : BadT s ((ts.length + 1 : Nat) : Int) := .inr ⟨P, ts, R, h, rfl, hR, .inr fun t r _ e => h10 (by rw [e]; simp)⟩
theorem Lines.bad2 (h : Lines s P ts R) (hR : R ≠ []) {a r : Bytes} {t : TranL} (h10 : (10 : UInt8) ∉ a) (hs : R = a ++ 10 :: r) (hn : LineIs P a t false) : BadT s ((ts.length + 1 : Nat) : Int) := by
  refine .inr ⟨P, ts, R, h, rfl, hR, .inr fun u r' hu e => ?_⟩
  rw [hs] at e
  obtain ⟨e1, _⟩ := part10 h10 (line_no10 hu) e
  rcases hn with ⟨q, _⟩ | ⟨_, q⟩
  · cases q
  · exact q u hu e1
theorem Lines.bad3 (h : Lines s P ts R) (hR : R ≠ []) (hl : ts.length = 24) : BadT s ((ts.length + 1 : Nat) : Int) := .inr ⟨P, ts, R, h, rfl, hR, .inl hl⟩
theorem Lines.good (h : Lines s P ts R) {a r : Bytes} {t : TranL} (hs : R = a ++ 10 :: r) (hn : LineIs P a t true) (hl : ts.length ≠ 24) : Lines s P (ts ++ [t]) r := by
  rcases hn with ⟨_, q1, q2⟩ | ⟨q, _⟩
  · exact h.next q1 (by rw [hs, q2]) (by have := h.many; omega)
  · cases q
end

set_option maxHeartbeats 8000000 in
theorem parse_any (s : Bytes) (w : World) (hv : VarM w) (hs : s.length < 4294967281) :
    Calls Tryd.prog 9 #[.string (bs s)] w fun e w' => ParseOut s w' e ∧ Below w.heap.size w w' := by
  have b0 := below_new w (.cells #[.int .i64 0, .slice none 0 0] 24)
  have hbx := box2_new w (.int .i64 0) (.slice none 0 0) 24
  have hfz : ∀ j, (w.alloc (.cells #[.int .i64 0, .slice none 0 0] 24)).frozen? ⟨w.heap.size, j, none⟩ = false := fun j => World.frozen?_alloc_at _ _ _ _ rfl
  obtain ⟨w0, H0⟩ : ∃ u, Hid (w.alloc (.cells #[.int .i64 0, .slice none 0 0] 24) = u) := ⟨_, rfl⟩
  obtain ⟨B, HB⟩ : ∃ z, Hid (w.heap.size = z) := ⟨_, rfl⟩
  rw [H0.out, HB.out] at hbx hfz
  rw [H0.out] at b0
  have hB9 : Hid (w.heap.size ≤ B) := Nat.le_of_eq HB.out
  go_enter Tryd.func9, Tryd.ntmps9
  go_upto_region 1 with fail
  rw [H0.out, HB.out]
  have hv0 := hv.below b0
  have hC := cut_any s [10] ⟨#[10]⟩ w0 rfl hv0 hs
  rcases cut_one s 10 with ⟨a, r, e1, h10, e2⟩ | ⟨h10, e2⟩
  · rw [e2] at hC
    simp only at hC
    have E1 : Hid (s = a ++ 10 :: r) := e1
    have hrl : r.length < 4294967281 := by have := congrArg List.length e1; simp at this; omega
    clear e1 e2
    go_upto_region 2 with (go_at_call 21; refine hC.mono ?_; rintro e w1 ⟨rfl, b1⟩)
    clear hC
    go_upto_region 3 with (go_at_call 22; refine (first_any a _).mono ?_; rintro e w2 ⟨⟨n, ok, rfl, hF⟩, rfl⟩)
    have hbx1 := hbx.below b1
    have hfz1 : ∀ j, w2.frozen? ⟨B, j, none⟩ = false := fun j => by rw [b1.frozen (p := ⟨B, j, none⟩) hbx.1]; exact hfz j
    have bw := below_then b0 b1
    cases ok
    · have R : Hid (BadT s 0) := first_bad2 h10 E1.out hF
      obtain ⟨_, x0, x1⟩ := id hbx1
      have g0 := hfz1 0
      have g1 := hfz1 1
      have hbW := box2_set hbx1 (.int .i64 0) (.slice none 0 0)
      have bW := (bw.setCell (p := ⟨B, 0, none⟩) hB9.out (.int .i64 0)).setCell (p := ⟨B, 1, none⟩) hB9.out (.slice none 0 0)
      obtain ⟨W, HW⟩ : ∃ u, Hid ((w2.setCell ⟨B, 0, none⟩ (.int .i64 0)).setCell ⟨B, 1, none⟩ (.slice none 0 0) = u) := ⟨_, rfl⟩
      rw [HW.out] at hbW bW
      clear hbx hfz hbx1 hfz1 hF bw
      go_wp2
      rw [HW.out]
      exact bodyPost_ret (v := .tuple #[.agg #[.int .i64 0, .slice none 0 0], .int .i64 0, .int .i64 1]) (results_net2 rfl rfl rfl rfl hbW.2.1 hbW.2.2) rfl ⟨parse_no R.out, bW⟩
    · obtain ⟨P, rfl, hP, hL⟩ := first_good E1.out hF
      have hvx := hv.below bw
      have hO := netOut_new w2 (P : Int) w2.heap.size rfl
      have HBX : Hid (B < w2.heap.size) := hbx1.1
      obtain ⟨X, HX⟩ : ∃ z, Hid (w2.heap.size = z) := ⟨_, rfl⟩
      rw [HX.out] at hO HBX
      obtain ⟨w3, H3⟩ : ∃ u, Hid (w2.alloc (.cells #[.int .i64 (P : Int), .slice none 0 0] 24) = u) := ⟨_, rfl⟩
      rw [H3.out] at hO
      have hbwX : Hid (Below w.heap.size w w2) := bw
      clear hF hbx hfz bw hv0 b1 b0
      go_upto_region 6 with fail
      rw [H3.out, HX.out]
      go_loopg [6] r.length (fun gk r6 wr => ∃ (rest : Bytes) (ts : List TranL) (ov : Value) (tv : List (Int × Value × Value)), r6 = .string (bs rest) ∧ gk = rest.length ∧ rest.length < 4294967281 ∧ NetOut X (P : Int) w2 wr ts ov tv ∧ Lines s P ts rest)
      case atStart => exact ⟨r, [], _, [], rfl, rfl, hrl, hO, hL⟩
      case round =>
        clear hO hL H3 hrl E1 h10
        obtain ⟨rest, ts, ov, tv, rfl, hg, hrl, hO, hL⟩ := hrel
        obtain ⟨g5, Hg5⟩ : ∃ z, Hid (gk = z) := ⟨_, rfl⟩
        have hm24 := hL.many
        have hTr := hO.trans (by have := hO.len; omega)
        obtain ⟨oa, ol, oc, rfl, hol, _⟩ := id hTr
        have Hol : Hid (ts.length = ol) := hol
        clear hol
        have hXr : X + 1 ≤ wr.heap.size := hO.size
        have q0 : Hid (wr.cell? ⟨X, 0, none⟩ = some (.int .i64 (P : Int))) := hO.c0
        have q1 : Hid (wr.cell? ⟨X, 1, none⟩ = some (.slice oa ol oc)) := hO.c1
        have hbxr : Hid (Box2 wr B (.int .i64 0) (.slice none 0 0)) := ⟨by have := HBX.out; omega, by rw [hO.below.cell (p := ⟨B, 0, none⟩) HBX.out]; exact hbx1.2.1, by rw [hO.below.cell (p := ⟨B, 1, none⟩) HBX.out]; exact hbx1.2.2⟩
        have hfzr : Hid (∀ j, wr.frozen? ⟨B, j, none⟩ = false) := fun j => by rw [hO.below.frozen (p := ⟨B, j, none⟩) HBX.out]; exact hfz1 j
        have bwr : Hid (Below w.heap.size w wr) := hbwX.out.trans (hO.below.mono (by have := HX.out; have := hbwX.out.size; omega))
        by_cases hr : rest = []
        · subst hr
          obtain ⟨hN1, hN2⟩ := hL.net
          have n1 := bs_nil (a := []) rfl
          obtain ⟨_, x0, x1⟩ := id hbxr.out
          have y0 := q0.out
          have y1 := q1.out
          have g0 := hfzr.out 0
          have g1 := hfzr.out 1
          have hbW := box2_set hbxr.out (.int .i64 (P : Int)) (.slice oa ol oc)
          have bW := (bwr.out.setCell (p := ⟨B, 0, none⟩) hB9.out (.int .i64 (P : Int))).setCell (p := ⟨B, 1, none⟩) hB9.out (.slice oa ol oc)
          obtain ⟨W, HW⟩ : ∃ u, Hid ((wr.setCell ⟨B, 0, none⟩ (.int .i64 (P : Int))).setCell ⟨B, 1, none⟩ (.slice oa ol oc) = u) := ⟨_, rfl⟩
          have hF := hO.fill (by have := hO.len; omega) HBX.out (.int .i64 (P : Int)) (.slice oa ol oc) HW.out
          rw [HW.out] at hbW bW
          have R : Hid (ParseOut s W (.returned (.tuple #[.agg #[.int .i64 (P : Int), .slice oa ol oc], .int .i64 0, .int .i64 0]))) := ⟨_, ⟨P, ts⟩, _, _, rfl, ⟨_, rfl, hF⟩, .inl ⟨rfl, rfl, hN1, hN2⟩⟩
          clear hO hL hTr hN1 hN2 hF
          go_wp2
          rw [HW.out]
          exact bodyPost_ret (v := .tuple #[.agg #[.int .i64 (P : Int), .slice oa ol oc], .int .i64 0, .int .i64 0]) (results_net2 rfl rfl rfl rfl hbW.2.1 hbW.2.2) rfl ⟨R.out, bW⟩
        · have n1 := bs_nonnil hr
          have Hr : Hid (¬ rest = []) := hr
          clear hr
          have hvr := hv.below bwr.out
          have hC := cut_any rest [10] ⟨#[10]⟩ wr rfl hvr hrl
          rcases cut_one rest 10 with ⟨a, r2, e1, h10, e2⟩ | ⟨h10, e2⟩
          · rw [e2] at hC
            simp only at hC
            have E1 : Hid (rest = a ++ 10 :: r2) := e1
            have hal : a.length < 4294967281 ∧ r2.length + 1 ≤ rest.length := by have := congrArg List.length e1; simp at this; omega
            clear e1 e2
            go_upto_region 8 with (go_at_call 21; refine hC.mono ?_; rintro e w4 ⟨rfl, b4⟩)
            clear hC
            go_upto_region 9 with (go_at_call 23; refine (tran_any a P _ (hvr.below b4) hal.1 hP).mono ?_; rintro e w5 ⟨hT, b5⟩; rcases hT with ⟨a1, m1, c1, a2, m2, c2, t, rfl, hI, hOn1, hOn2⟩ | ⟨rfl, hI⟩)
            · have b45 := below_then b4 b5
              by_cases h24 : ol = 24
              · have R : Hid (BadT s ((ol + 1 : Nat) : Int)) := by rw [← Hol.out]; exact hL.bad3 Hr.out (Hol.out.trans h24)
                have n4 : ((ol : Int) == 24) = true := by rw [h24]; rfl
                clear h24 hI hOn1 hOn2
                have bA := below_new w5 (.cells #[.int .i64 t.label, .slice a1 m1 c1, .slice a2 m2 c2] 43)
                obtain ⟨w6, H6⟩ : ∃ u, Hid (w5.alloc (.cells #[.int .i64 t.label, .slice a1 m1 c1, .slice a2 m2 c2] 43) = u) := ⟨_, rfl⟩
                rw [H6.out] at bA
                have b6 := below_then b45 bA
                have y1 := (b6.cell (p := ⟨X, 1, none⟩) (show X < _ by omega)).trans q1.out
                have hbx6 := hbxr.out.below b6
                have g0 : w6.frozen? ⟨B, 0, none⟩ = false := by rw [b6.frozen (p := ⟨B, 0, none⟩) hbxr.out.1]; exact hfzr.out 0
                have g1 : w6.frozen? ⟨B, 1, none⟩ = false := by rw [b6.frozen (p := ⟨B, 1, none⟩) hbxr.out.1]; exact hfzr.out 1
                have b9 := below_then bwr.out b6
                have hbW := box2_set hbx6 (.int .i64 0) (.slice none 0 0)
                have bW := (b9.setCell (p := ⟨B, 0, none⟩) hB9.out (.int .i64 0)).setCell (p := ⟨B, 1, none⟩) hB9.out (.slice none 0 0)
                have hl24 : ol ≤ 24 := by rw [← Hol.out]; exact hm24
                have wl : IntKind.i64.wrap ((ol : Int) + 1) = ((ol + 1 : Nat) : Int) := by rw [show ((ol : Int) + 1) = ((ol + 1 : Nat) : Int) by omega]; exact Go.IntWalk.i64_in _ ⟨by omega, by omega⟩
                obtain ⟨W, HW⟩ : ∃ u, Hid ((w6.setCell ⟨B, 0, none⟩ (.int .i64 0)).setCell ⟨B, 1, none⟩ (.slice none 0 0) = u) := ⟨_, rfl⟩
                have y9 : W.cell? ⟨X, 1, none⟩ = some (.slice oa ol oc) := by rw [← HW.out, World.cell?_setCell_other _ _ _ _ (by intro q; injection q with q; have := HBX.out; omega), World.cell?_setCell_other _ _ _ _ (by intro q; injection q with q; have := HBX.out; omega)]; exact y1
                rw [HW.out] at hbW bW
                have HBX2 := HBX.out
                obtain ⟨Y, HY⟩ : ∃ z, Hid (w5.heap.size = z) := ⟨_, rfl⟩
                rw [H6.out, HY.out]
                clear hO hL hTr bA b45 b6 b9 HY H6
                obtain ⟨_, x0, x1⟩ := id hbx6
                go_upto_region 10 with fail
                refine wp_region_held_drew (S := fun w' => w'.cell? ⟨X, 1, none⟩ = some (.slice oa ol oc)) (by kernel_rfl) y1 (fun hH => ?_)
                refine wpAnyH_take (i := 0) (v := .agg #[.int .i64 0, .slice none 0 0]) rfl (by kernel_rfl) (by kernel_rfl) (by kernel_rfl) (fun _ _ _ h => h) (.inl ⟨by rfl, fun w' hS' => by first | (go_simp; done) | (go_simp; rfl) | (go_simp; intro h; omega) | (go_simp; omega)⟩) hH ?_
                simp only [List.getElem_toArray, List.getElem_cons_succ, List.getElem_cons_zero, Act.put, List.setIfInBounds_toArray, List.set_cons_zero, List.set_cons_succ]
                refine wpAnyH_take (i := 1) (v := .pointer (some ⟨X, 1, none⟩)) rfl (by kernel_rfl) (by kernel_rfl) (by kernel_rfl) (fun _ _ _ h => h) (.inl ⟨by rfl, fun w' hS' => by first | (go_simp; done) | (go_simp; rfl) | (go_simp; intro h; omega) | (go_simp; omega)⟩) hH ?_
                simp only [List.getElem_toArray, List.getElem_cons_succ, List.getElem_cons_zero, Act.put, List.setIfInBounds_toArray, List.set_cons_zero, List.set_cons_succ]
                refine wpAnyH_take (i := 2) (v := .slice oa ol oc) rfl (by kernel_rfl) (by kernel_rfl) (by kernel_rfl) (fun _ _ _ h => h) (.inl ⟨by rfl, fun w' hS' => by go_simp⟩) hH ?_
                simp only [List.getElem_toArray, List.getElem_cons_succ, List.getElem_cons_zero, Act.put, List.setIfInBounds_toArray, List.set_cons_zero, List.set_cons_succ]
                refine wpAnyH_take (i := 3) (v := .int .i64 (ol : Int)) rfl (by kernel_rfl) (by kernel_rfl) (by kernel_rfl) (fun _ _ _ h => h) (.inl ⟨by rfl, fun w' hS' => by first | (go_simp; done) | (go_simp; rfl) | (go_simp; intro h; omega) | (go_simp; omega)⟩) hH ?_
                simp only [List.getElem_toArray, List.getElem_cons_succ, List.getElem_cons_zero, Act.put, List.setIfInBounds_toArray, List.set_cons_zero, List.set_cons_succ]
                refine wpAnyH_take (i := 4) (v := .int .i64 ((ol + 1 : Nat) : Int)) rfl (by kernel_rfl) (by kernel_rfl) (by kernel_rfl) (fun _ _ _ h => h) (.inl ⟨by rfl, fun w' hS' => by first | (go_simp; done) | (go_simp; rfl) | (go_simp; intro h; omega) | (go_simp; omega)⟩) hH ?_
                simp only [List.getElem_toArray, List.getElem_cons_succ, List.getElem_cons_zero, Act.put, List.setIfInBounds_toArray, List.set_cons_zero, List.set_cons_succ]
                refine wpAnyH_ready (rs := [5]) (by kernel_rfl) (by simp) ?_
                refine AllReadyH.cons rfl (fun K hK => ?_) AllReadyH.nil
                simp only [List.getElem_toArray, List.getElem_cons_succ, List.getElem_cons_zero]
                rw [if_pos (by rfl)]
                go_wp2_with fail
                rw [HW.out]
                refine hK.out _ _ y9 (fun hH => ?_)
                clear hK
                refine wpAnyH_take (i := 6) (v := .int .i64 ((ol + 1 : Nat) : Int)) rfl (by kernel_rfl) (by kernel_rfl) (by kernel_rfl) (fun _ _ _ h => h) (.inl ⟨by rfl, fun _ _ => rfl⟩) hH ?_
                simp only [List.getElem_toArray, List.getElem_cons_succ, List.getElem_cons_zero, Act.put, List.setIfInBounds_toArray, List.set_cons_zero, List.set_cons_succ]
                refine wpAnyH_take (i := 7) (v := .int .i64 1) rfl (by kernel_rfl) (by kernel_rfl) (by kernel_rfl) (fun _ _ _ h => h) (.inl ⟨by rfl, fun _ _ => rfl⟩) hH ?_
                simp only [List.getElem_toArray, List.getElem_cons_succ, List.getElem_cons_zero, Act.put, List.setIfInBounds_toArray, List.set_cons_zero, List.set_cons_succ]
                refine wpAnyH_done (by kernel_rfl) ?_ _
                clear hH
                go_wp2
                exact bodyPost_ret (v := .tuple #[.agg #[.int .i64 0, .slice none 0 0], .int .i64 ((ol + 1 : Nat) : Int), .int .i64 1]) (results_net2 rfl rfl rfl rfl hbW.2.1 hbW.2.2) rfl ⟨parse_no R.out, bW.drew⟩
              · have HI : Hid (LineIs P a t true) := hI
                have hL2 := hL.good E1.out hI (by rw [Hol.out]; exact h24)
                have n4 : ((ol : Int) == 24) = false := by rw [beq_eq_false_iff_ne]; omega
                have bA := below_new w5 (.cells #[.int .i64 t.label, .slice a1 m1 c1, .slice a2 m2 c2] 43)
                have hy := box3_new w5 (.int .i64 t.label) (.slice a1 m1 c1) (.slice a2 m2 c2) 43
                obtain ⟨w6, H6⟩ : ∃ u, Hid (w5.alloc (.cells #[.int .i64 t.label, .slice a1 m1 c1, .slice a2 m2 c2] 43) = u) := ⟨_, rfl⟩
                obtain ⟨Y, HY⟩ : ∃ z, Hid (w5.heap.size = z) := ⟨_, rfl⟩
                rw [H6.out, HY.out] at hy
                rw [H6.out] at bA
                have b6 := below_then b45 bA
                have hO6 := hO.to b6
                obtain ⟨_, z0, z1, z2⟩ := id hy
                have y1 := hO6.c1
                have hown := hO6.own
                have hszX : Hid (X + 1 ≤ w6.heap.size) := hO6.size
                have htv : Hid (tv.length ≤ 24) := by show _ ≤ _; rw [← hO.len]; exact hm24
                have HO6 : Hid (NetOut X (P : Int) w2 w6 ts (.slice oa ol oc) tv) := hO6
                have HN : Hid (∀ v' w7, w7.ownsRow (X + 1) 43 3 v' (tv ++ [(t.label, Value.slice a1 m1 c1, Value.slice a2 m2 c2)]).length (tvCells (tv ++ [(t.label, Value.slice a1 m1 c1, Value.slice a2 m2 c2)])) →
                    (w6.alloc (.cells #[.int .i64 t.label, .slice a1 m1 c1, .slice a2 m2 c2] 43)).grownBy w7 (Value.slice oa ol oc).ownBlock →
                    (v'.ownBlock = (Value.slice oa ol oc).ownBlock ∨ v'.ownBlock = some (w6.alloc (.cells #[.int .i64 t.label, .slice a1 m1 c1, .slice a2 m2 c2] 43)).heap.size) →
                    NetOut X (P : Int) w2 (w7.setCell ⟨X, 1, none⟩ v') (ts ++ [t]) v' (tv ++ [(t.label, Value.slice a1 m1 c1, Value.slice a2 m2 c2)])) := fun v' w7 g1 g2 g3 =>
                  hO.step (vs := [t]) (xs := [(t.label, Value.slice a1 m1 c1, Value.slice a2 m2 c2)]) rfl (below_then b6 (below_new w6 _)) (fun j hj => by
                    obtain rfl : j = 0 := by simpa using hj
                    refine ⟨rfl, ?_, ?_⟩
                    · exact ((hOn1.below bA).below (below_new w6 _)).weaken fun k _ hk => Nat.le_trans b4.size hk
                    · exact ((hOn2.below bA).below (below_new w6 _)).weaken fun k _ hk => Nat.le_trans b4.size hk) g1 g2 g3
                rw [H6.out, HY.out]
                clear h24 hI hL hO hO6 hOn1 hOn2 hTr b6 bA b45
                go_upto_region 11 with fail
                go_wp2_with (at_builtin; refine wp_append_tran_at rfl _ _ rfl (X + 1) w6 _ tv t.label a1 a2 m1 m2 c1 c2 hown rfl rfl (by have := htv.out; omega) hszX.out ?_; intro v' w7 hO7 hg7 hat7; obtain ⟨y3, y4⟩ := HO6.out.afterA _ hg7; have hN7 := HN.out v' w7 hO7 hg7 hat7; obtain ⟨oa2, ol2, oc2, rfl⟩ := ownsRow_slice hO7)
                go_roundg r2.length
                case measure => omega
                case rel => exact ⟨r2, _, _, _, rfl, rfl, by omega, hN7, hL2⟩
            · have b45 := below_then b4 b5
              have R : Hid (BadT s ((ol + 1 : Nat) : Int)) := by rw [← Hol.out]; exact hL.bad2 Hr.out h10 E1.out hI
              have n4 : True := trivial
              clear hI
              have bA := below_new w5 (.cells #[.int .i64 0, .slice none 0 0, .slice none 0 0] 43)
              obtain ⟨w6, H6⟩ : ∃ u, Hid (w5.alloc (.cells #[.int .i64 0, .slice none 0 0, .slice none 0 0] 43) = u) := ⟨_, rfl⟩
              rw [H6.out] at bA
              have b6 := below_then b45 bA
              have y1 := (b6.cell (p := ⟨X, 1, none⟩) (show X < _ by omega)).trans q1.out
              have hbx6 := hbxr.out.below b6
              have g0 : w6.frozen? ⟨B, 0, none⟩ = false := by rw [b6.frozen (p := ⟨B, 0, none⟩) hbxr.out.1]; exact hfzr.out 0
              have g1 : w6.frozen? ⟨B, 1, none⟩ = false := by rw [b6.frozen (p := ⟨B, 1, none⟩) hbxr.out.1]; exact hfzr.out 1
              have b9 := below_then bwr.out b6
              have hbW := box2_set hbx6 (.int .i64 0) (.slice none 0 0)
              have bW := (b9.setCell (p := ⟨B, 0, none⟩) hB9.out (.int .i64 0)).setCell (p := ⟨B, 1, none⟩) hB9.out (.slice none 0 0)
              have hl24 : ol ≤ 24 := by rw [← Hol.out]; exact hm24
              have wl : IntKind.i64.wrap ((ol : Int) + 1) = ((ol + 1 : Nat) : Int) := by rw [show ((ol : Int) + 1) = ((ol + 1 : Nat) : Int) by omega]; exact Go.IntWalk.i64_in _ ⟨by omega, by omega⟩
              obtain ⟨W, HW⟩ : ∃ u, Hid ((w6.setCell ⟨B, 0, none⟩ (.int .i64 0)).setCell ⟨B, 1, none⟩ (.slice none 0 0) = u) := ⟨_, rfl⟩
              have y9 : W.cell? ⟨X, 1, none⟩ = some (.slice oa ol oc) := by rw [← HW.out, World.cell?_setCell_other _ _ _ _ (by intro q; injection q with q; have := HBX.out; omega), World.cell?_setCell_other _ _ _ _ (by intro q; injection q with q; have := HBX.out; omega)]; exact y1
              rw [HW.out] at hbW bW
              have HBX2 := HBX.out
              obtain ⟨Y, HY⟩ : ∃ z, Hid (w5.heap.size = z) := ⟨_, rfl⟩
              rw [H6.out, HY.out]
              clear hO hL hTr bA b45 b6 b9 HY H6
              obtain ⟨_, x0, x1⟩ := id hbx6
              go_upto_region 10 with fail
              refine wp_region_held_drew (S := fun w' => w'.cell? ⟨X, 1, none⟩ = some (.slice oa ol oc)) (by kernel_rfl) y1 (fun hH => ?_)
              refine wpAnyH_take (i := 0) (v := .agg #[.int .i64 0, .slice none 0 0]) rfl (by kernel_rfl) (by kernel_rfl) (by kernel_rfl) (fun _ _ _ h => h) (.inl ⟨by rfl, fun w' hS' => by first | (go_simp; done) | (go_simp; rfl) | (go_simp; intro h; omega) | (go_simp; omega)⟩) hH ?_
              simp only [List.getElem_toArray, List.getElem_cons_succ, List.getElem_cons_zero, Act.put, List.setIfInBounds_toArray, List.set_cons_zero, List.set_cons_succ]
              refine wpAnyH_take (i := 1) (v := .pointer (some ⟨X, 1, none⟩)) rfl (by kernel_rfl) (by kernel_rfl) (by kernel_rfl) (fun _ _ _ h => h) (.inl ⟨by rfl, fun w' hS' => by first | (go_simp; done) | (go_simp; rfl) | (go_simp; intro h; omega) | (go_simp; omega)⟩) hH ?_
              simp only [List.getElem_toArray, List.getElem_cons_succ, List.getElem_cons_zero, Act.put, List.setIfInBounds_toArray, List.set_cons_zero, List.set_cons_succ]
              refine wpAnyH_take (i := 2) (v := .slice oa ol oc) rfl (by kernel_rfl) (by kernel_rfl) (by kernel_rfl) (fun _ _ _ h => h) (.inl ⟨by rfl, fun w' hS' => by go_simp⟩) hH ?_
              simp only [List.getElem_toArray, List.getElem_cons_succ, List.getElem_cons_zero, Act.put, List.setIfInBounds_toArray, List.set_cons_zero, List.set_cons_succ]
              refine wpAnyH_take (i := 3) (v := .int .i64 (ol : Int)) rfl (by kernel_rfl) (by kernel_rfl) (by kernel_rfl) (fun _ _ _ h => h) (.inl ⟨by rfl, fun w' hS' => by first | (go_simp; done) | (go_simp; rfl) | (go_simp; intro h; omega) | (go_simp; omega)⟩) hH ?_
              simp only [List.getElem_toArray, List.getElem_cons_succ, List.getElem_cons_zero, Act.put, List.setIfInBounds_toArray, List.set_cons_zero, List.set_cons_succ]
              refine wpAnyH_take (i := 4) (v := .int .i64 ((ol + 1 : Nat) : Int)) rfl (by kernel_rfl) (by kernel_rfl) (by kernel_rfl) (fun _ _ _ h => h) (.inl ⟨by rfl, fun w' hS' => by first | (go_simp; done) | (go_simp; rfl) | (go_simp; intro h; omega) | (go_simp; omega)⟩) hH ?_
              simp only [List.getElem_toArray, List.getElem_cons_succ, List.getElem_cons_zero, Act.put, List.setIfInBounds_toArray, List.set_cons_zero, List.set_cons_succ]
              refine wpAnyH_ready (rs := [5]) (by kernel_rfl) (by simp) ?_
              refine AllReadyH.cons rfl (fun K hK => ?_) AllReadyH.nil
              simp only [List.getElem_toArray, List.getElem_cons_succ, List.getElem_cons_zero]
              rw [if_pos (by rfl)]
              go_wp2_with fail
              rw [HW.out]
              refine hK.out _ _ y9 (fun hH => ?_)
              clear hK
              refine wpAnyH_take (i := 6) (v := .int .i64 ((ol + 1 : Nat) : Int)) rfl (by kernel_rfl) (by kernel_rfl) (by kernel_rfl) (fun _ _ _ h => h) (.inl ⟨by rfl, fun _ _ => rfl⟩) hH ?_
              simp only [List.getElem_toArray, List.getElem_cons_succ, List.getElem_cons_zero, Act.put, List.setIfInBounds_toArray, List.set_cons_zero, List.set_cons_succ]
              refine wpAnyH_take (i := 7) (v := .int .i64 1) rfl (by kernel_rfl) (by kernel_rfl) (by kernel_rfl) (fun _ _ _ h => h) (.inl ⟨by rfl, fun _ _ => rfl⟩) hH ?_
              simp only [List.getElem_toArray, List.getElem_cons_succ, List.getElem_cons_zero, Act.put, List.setIfInBounds_toArray, List.set_cons_zero, List.set_cons_succ]
              refine wpAnyH_done (by kernel_rfl) ?_ _
              clear hH
              go_wp2
              exact bodyPost_ret (v := .tuple #[.agg #[.int .i64 0, .slice none 0 0], .int .i64 ((ol + 1 : Nat) : Int), .int .i64 1]) (results_net2 rfl rfl rfl rfl hbW.2.1 hbW.2.2) rfl ⟨parse_no R.out, bW.drew⟩
          · rw [e2] at hC
            simp only at hC
            clear e2
            have R : Hid (BadT s ((ol + 1 : Nat) : Int)) := by rw [← Hol.out]; exact hL.bad1 Hr.out h10
            have n4 : True := trivial
            go_upto_region 8 with (go_at_call 21; refine hC.mono ?_; rintro e w4 ⟨rfl, b4⟩)
            clear hC
            go_upto_region 9 with (go_at_call 23; refine (tran_any rest P _ (hvr.below b4) hrl hP).mono ?_; rintro e w5 ⟨hT, b5⟩; rcases hT with ⟨a1, m1, c1, a2, m2, c2, t, rfl, hI, hOn1, hOn2⟩ | ⟨rfl, hI⟩)
            · have b45 := below_then b4 b5
              clear hI hOn1 hOn2
              have bA := below_new w5 (.cells #[.int .i64 t.label, .slice a1 m1 c1, .slice a2 m2 c2] 43)
              obtain ⟨w6, H6⟩ : ∃ u, Hid (w5.alloc (.cells #[.int .i64 t.label, .slice a1 m1 c1, .slice a2 m2 c2] 43) = u) := ⟨_, rfl⟩
              rw [H6.out] at bA
              have b6 := below_then b45 bA
              have y1 := (b6.cell (p := ⟨X, 1, none⟩) (show X < _ by omega)).trans q1.out
              have hbx6 := hbxr.out.below b6
              have g0 : w6.frozen? ⟨B, 0, none⟩ = false := by rw [b6.frozen (p := ⟨B, 0, none⟩) hbxr.out.1]; exact hfzr.out 0
              have g1 : w6.frozen? ⟨B, 1, none⟩ = false := by rw [b6.frozen (p := ⟨B, 1, none⟩) hbxr.out.1]; exact hfzr.out 1
              have b9 := below_then bwr.out b6
              have hbW := box2_set hbx6 (.int .i64 0) (.slice none 0 0)
              have bW := (b9.setCell (p := ⟨B, 0, none⟩) hB9.out (.int .i64 0)).setCell (p := ⟨B, 1, none⟩) hB9.out (.slice none 0 0)
              have hl24 : ol ≤ 24 := by rw [← Hol.out]; exact hm24
              have wl : IntKind.i64.wrap ((ol : Int) + 1) = ((ol + 1 : Nat) : Int) := by rw [show ((ol : Int) + 1) = ((ol + 1 : Nat) : Int) by omega]; exact Go.IntWalk.i64_in _ ⟨by omega, by omega⟩
              obtain ⟨W, HW⟩ : ∃ u, Hid ((w6.setCell ⟨B, 0, none⟩ (.int .i64 0)).setCell ⟨B, 1, none⟩ (.slice none 0 0) = u) := ⟨_, rfl⟩
              have y9 : W.cell? ⟨X, 1, none⟩ = some (.slice oa ol oc) := by rw [← HW.out, World.cell?_setCell_other _ _ _ _ (by intro q; injection q with q; have := HBX.out; omega), World.cell?_setCell_other _ _ _ _ (by intro q; injection q with q; have := HBX.out; omega)]; exact y1
              rw [HW.out] at hbW bW
              have HBX2 := HBX.out
              obtain ⟨Y, HY⟩ : ∃ z, Hid (w5.heap.size = z) := ⟨_, rfl⟩
              rw [H6.out, HY.out]
              clear hO hL hTr bA b45 b6 b9 HY H6
              obtain ⟨_, x0, x1⟩ := id hbx6
              go_upto_region 10 with fail
              refine wp_region_held_drew (S := fun w' => w'.cell? ⟨X, 1, none⟩ = some (.slice oa ol oc)) (by kernel_rfl) y1 (fun hH => ?_)
              refine wpAnyH_take (i := 0) (v := .agg #[.int .i64 0, .slice none 0 0]) rfl (by kernel_rfl) (by kernel_rfl) (by kernel_rfl) (fun _ _ _ h => h) (.inl ⟨by rfl, fun w' hS' => by first | (go_simp; done) | (go_simp; rfl) | (go_simp; intro h; omega) | (go_simp; omega)⟩) hH ?_
              simp only [List.getElem_toArray, List.getElem_cons_succ, List.getElem_cons_zero, Act.put, List.setIfInBounds_toArray, List.set_cons_zero, List.set_cons_succ]
              refine wpAnyH_take (i := 1) (v := .pointer (some ⟨X, 1, none⟩)) rfl (by kernel_rfl) (by kernel_rfl) (by kernel_rfl) (fun _ _ _ h => h) (.inl ⟨by rfl, fun w' hS' => by first | (go_simp; done) | (go_simp; rfl) | (go_simp; intro h; omega) | (go_simp; omega)⟩) hH ?_
              simp only [List.getElem_toArray, List.getElem_cons_succ, List.getElem_cons_zero, Act.put, List.setIfInBounds_toArray, List.set_cons_zero, List.set_cons_succ]
              refine wpAnyH_take (i := 2) (v := .slice oa ol oc) rfl (by kernel_rfl) (by kernel_rfl) (by kernel_rfl) (fun _ _ _ h => h) (.inl ⟨by rfl, fun w' hS' => by go_simp⟩) hH ?_
              simp only [List.getElem_toArray, List.getElem_cons_succ, List.getElem_cons_zero, Act.put, List.setIfInBounds_toArray, List.set_cons_zero, List.set_cons_succ]
              refine wpAnyH_take (i := 3) (v := .int .i64 (ol : Int)) rfl (by kernel_rfl) (by kernel_rfl) (by kernel_rfl) (fun _ _ _ h => h) (.inl ⟨by rfl, fun w' hS' => by first | (go_simp; done) | (go_simp; rfl) | (go_simp; intro h; omega) | (go_simp; omega)⟩) hH ?_
              simp only [List.getElem_toArray, List.getElem_cons_succ, List.getElem_cons_zero, Act.put, List.setIfInBounds_toArray, List.set_cons_zero, List.set_cons_succ]
              refine wpAnyH_take (i := 4) (v := .int .i64 ((ol + 1 : Nat) : Int)) rfl (by kernel_rfl) (by kernel_rfl) (by kernel_rfl) (fun _ _ _ h => h) (.inl ⟨by rfl, fun w' hS' => by first | (go_simp; done) | (go_simp; rfl) | (go_simp; intro h; omega) | (go_simp; omega)⟩) hH ?_
              simp only [List.getElem_toArray, List.getElem_cons_succ, List.getElem_cons_zero, Act.put, List.setIfInBounds_toArray, List.set_cons_zero, List.set_cons_succ]
              refine wpAnyH_ready (rs := [5]) (by kernel_rfl) (by simp) ?_
              refine AllReadyH.cons rfl (fun K hK => ?_) AllReadyH.nil
              simp only [List.getElem_toArray, List.getElem_cons_succ, List.getElem_cons_zero]
              rw [if_pos (by rfl)]
              go_wp2_with fail
              rw [HW.out]
              refine hK.out _ _ y9 (fun hH => ?_)
              clear hK
              refine wpAnyH_take (i := 6) (v := .int .i64 ((ol + 1 : Nat) : Int)) rfl (by kernel_rfl) (by kernel_rfl) (by kernel_rfl) (fun _ _ _ h => h) (.inl ⟨by rfl, fun _ _ => rfl⟩) hH ?_
              simp only [List.getElem_toArray, List.getElem_cons_succ, List.getElem_cons_zero, Act.put, List.setIfInBounds_toArray, List.set_cons_zero, List.set_cons_succ]
              refine wpAnyH_take (i := 7) (v := .int .i64 1) rfl (by kernel_rfl) (by kernel_rfl) (by kernel_rfl) (fun _ _ _ h => h) (.inl ⟨by rfl, fun _ _ => rfl⟩) hH ?_
              simp only [List.getElem_toArray, List.getElem_cons_succ, List.getElem_cons_zero, Act.put, List.setIfInBounds_toArray, List.set_cons_zero, List.set_cons_succ]
              refine wpAnyH_done (by kernel_rfl) ?_ _
              clear hH
              go_wp2
              exact bodyPost_ret (v := .tuple #[.agg #[.int .i64 0, .slice none 0 0], .int .i64 ((ol + 1 : Nat) : Int), .int .i64 1]) (results_net2 rfl rfl rfl rfl hbW.2.1 hbW.2.2) rfl ⟨parse_no R.out, bW.drew⟩
            · have b45 := below_then b4 b5
              clear hI
              have bA := below_new w5 (.cells #[.int .i64 0, .slice none 0 0, .slice none 0 0] 43)
              obtain ⟨w6, H6⟩ : ∃ u, Hid (w5.alloc (.cells #[.int .i64 0, .slice none 0 0, .slice none 0 0] 43) = u) := ⟨_, rfl⟩
              rw [H6.out] at bA
              have b6 := below_then b45 bA
              have y1 := (b6.cell (p := ⟨X, 1, none⟩) (show X < _ by omega)).trans q1.out
              have hbx6 := hbxr.out.below b6
              have g0 : w6.frozen? ⟨B, 0, none⟩ = false := by rw [b6.frozen (p := ⟨B, 0, none⟩) hbxr.out.1]; exact hfzr.out 0
              have g1 : w6.frozen? ⟨B, 1, none⟩ = false := by rw [b6.frozen (p := ⟨B, 1, none⟩) hbxr.out.1]; exact hfzr.out 1
              have b9 := below_then bwr.out b6
              have hbW := box2_set hbx6 (.int .i64 0) (.slice none 0 0)
              have bW := (b9.setCell (p := ⟨B, 0, none⟩) hB9.out (.int .i64 0)).setCell (p := ⟨B, 1, none⟩) hB9.out (.slice none 0 0)
              have hl24 : ol ≤ 24 := by rw [← Hol.out]; exact hm24
              have wl : IntKind.i64.wrap ((ol : Int) + 1) = ((ol + 1 : Nat) : Int) := by rw [show ((ol : Int) + 1) = ((ol + 1 : Nat) : Int) by omega]; exact Go.IntWalk.i64_in _ ⟨by omega, by omega⟩
              obtain ⟨W, HW⟩ : ∃ u, Hid ((w6.setCell ⟨B, 0, none⟩ (.int .i64 0)).setCell ⟨B, 1, none⟩ (.slice none 0 0) = u) := ⟨_, rfl⟩
              have y9 : W.cell? ⟨X, 1, none⟩ = some (.slice oa ol oc) := by rw [← HW.out, World.cell?_setCell_other _ _ _ _ (by intro q; injection q with q; have := HBX.out; omega), World.cell?_setCell_other _ _ _ _ (by intro q; injection q with q; have := HBX.out; omega)]; exact y1
              rw [HW.out] at hbW bW
              have HBX2 := HBX.out
              obtain ⟨Y, HY⟩ : ∃ z, Hid (w5.heap.size = z) := ⟨_, rfl⟩
              rw [H6.out, HY.out]
              clear hO hL hTr bA b45 b6 b9 HY H6
              obtain ⟨_, x0, x1⟩ := id hbx6
              go_upto_region 10 with fail
              refine wp_region_held_drew (S := fun w' => w'.cell? ⟨X, 1, none⟩ = some (.slice oa ol oc)) (by kernel_rfl) y1 (fun hH => ?_)
              refine wpAnyH_take (i := 0) (v := .agg #[.int .i64 0, .slice none 0 0]) rfl (by kernel_rfl) (by kernel_rfl) (by kernel_rfl) (fun _ _ _ h => h) (.inl ⟨by rfl, fun w' hS' => by first | (go_simp; done) | (go_simp; rfl) | (go_simp; intro h; omega) | (go_simp; omega)⟩) hH ?_
              simp only [List.getElem_toArray, List.getElem_cons_succ, List.getElem_cons_zero, Act.put, List.setIfInBounds_toArray, List.set_cons_zero, List.set_cons_succ]
              refine wpAnyH_take (i := 1) (v := .pointer (some ⟨X, 1, none⟩)) rfl (by kernel_rfl) (by kernel_rfl) (by kernel_rfl) (fun _ _ _ h => h) (.inl ⟨by rfl, fun w' hS' => by first | (go_simp; done) | (go_simp; rfl) | (go_simp; intro h; omega) | (go_simp; omega)⟩) hH ?_
              simp only [List.getElem_toArray, List.getElem_cons_succ, List.getElem_cons_zero, Act.put, List.setIfInBounds_toArray, List.set_cons_zero, List.set_cons_succ]
              refine wpAnyH_take (i := 2) (v := .slice oa ol oc) rfl (by kernel_rfl) (by kernel_rfl) (by kernel_rfl) (fun _ _ _ h => h) (.inl ⟨by rfl, fun w' hS' => by go_simp⟩) hH ?_
              simp only [List.getElem_toArray, List.getElem_cons_succ, List.getElem_cons_zero, Act.put, List.setIfInBounds_toArray, List.set_cons_zero, List.set_cons_succ]
              refine wpAnyH_take (i := 3) (v := .int .i64 (ol : Int)) rfl (by kernel_rfl) (by kernel_rfl) (by kernel_rfl) (fun _ _ _ h => h) (.inl ⟨by rfl, fun w' hS' => by first | (go_simp; done) | (go_simp; rfl) | (go_simp; intro h; omega) | (go_simp; omega)⟩) hH ?_
              simp only [List.getElem_toArray, List.getElem_cons_succ, List.getElem_cons_zero, Act.put, List.setIfInBounds_toArray, List.set_cons_zero, List.set_cons_succ]
              refine wpAnyH_take (i := 4) (v := .int .i64 ((ol + 1 : Nat) : Int)) rfl (by kernel_rfl) (by kernel_rfl) (by kernel_rfl) (fun _ _ _ h => h) (.inl ⟨by rfl, fun w' hS' => by first | (go_simp; done) | (go_simp; rfl) | (go_simp; intro h; omega) | (go_simp; omega)⟩) hH ?_
              simp only [List.getElem_toArray, List.getElem_cons_succ, List.getElem_cons_zero, Act.put, List.setIfInBounds_toArray, List.set_cons_zero, List.set_cons_succ]
              refine wpAnyH_ready (rs := [5]) (by kernel_rfl) (by simp) ?_
              refine AllReadyH.cons rfl (fun K hK => ?_) AllReadyH.nil
              simp only [List.getElem_toArray, List.getElem_cons_succ, List.getElem_cons_zero]
              rw [if_pos (by rfl)]
              go_wp2_with fail
              rw [HW.out]
              refine hK.out _ _ y9 (fun hH => ?_)
              clear hK
              refine wpAnyH_take (i := 6) (v := .int .i64 ((ol + 1 : Nat) : Int)) rfl (by kernel_rfl) (by kernel_rfl) (by kernel_rfl) (fun _ _ _ h => h) (.inl ⟨by rfl, fun _ _ => rfl⟩) hH ?_
              simp only [List.getElem_toArray, List.getElem_cons_succ, List.getElem_cons_zero, Act.put, List.setIfInBounds_toArray, List.set_cons_zero, List.set_cons_succ]
              refine wpAnyH_take (i := 7) (v := .int .i64 1) rfl (by kernel_rfl) (by kernel_rfl) (by kernel_rfl) (fun _ _ _ h => h) (.inl ⟨by rfl, fun _ _ => rfl⟩) hH ?_
              simp only [List.getElem_toArray, List.getElem_cons_succ, List.getElem_cons_zero, Act.put, List.setIfInBounds_toArray, List.set_cons_zero, List.set_cons_succ]
              refine wpAnyH_done (by kernel_rfl) ?_ _
              clear hH
              go_wp2
              exact bodyPost_ret (v := .tuple #[.agg #[.int .i64 0, .slice none 0 0], .int .i64 ((ol + 1 : Nat) : Int), .int .i64 1]) (results_net2 rfl rfl rfl rfl hbW.2.1 hbW.2.2) rfl ⟨parse_no R.out, bW.drew⟩
  · rw [e2] at hC
    simp only at hC
    have R : Hid (BadT s 0) := first_bad1 h10
    clear e2
    go_upto_region 2 with (go_at_call 21; refine hC.mono ?_; rintro e w1 ⟨rfl, b1⟩)
    clear hC
    go_upto_region 3 with (go_at_call 22; refine (first_any s _).mono ?_; rintro e w2 ⟨⟨n, ok, rfl, hF⟩, rfl⟩)
    have hbx1 := hbx.below b1
    have hfz1 : ∀ j, w2.frozen? ⟨B, j, none⟩ = false := fun j => by rw [b1.frozen (p := ⟨B, j, none⟩) hbx.1]; exact hfz j
    have bw := below_then b0 b1
    obtain ⟨_, x0, x1⟩ := id hbx1
    have g0 := hfz1 0
    have g1 := hfz1 1
    have hbW := box2_set hbx1 (.int .i64 0) (.slice none 0 0)
    have bW := (bw.setCell (p := ⟨B, 0, none⟩) hB9.out (.int .i64 0)).setCell (p := ⟨B, 1, none⟩) hB9.out (.slice none 0 0)
    obtain ⟨W, HW⟩ : ∃ u, Hid ((w2.setCell ⟨B, 0, none⟩ (.int .i64 0)).setCell ⟨B, 1, none⟩ (.slice none 0 0) = u) := ⟨_, rfl⟩
    rw [HW.out] at hbW bW
    clear hbx hfz hbx1 hfz1 hF bw
    go_wp2
    rw [HW.out]
    exact bodyPost_ret (v := .tuple #[.agg #[.int .i64 0, .slice none 0 0], .int .i64 0, .int .i64 1]) (results_net2 rfl rfl rfl rfl hbW.2.1 hbW.2.2) rfl ⟨parse_no R.out, bW⟩

end Go.Proofs.YteeogdihaajicaaDoor
