/- Package grow as it landed: weights, and the whole net. -/
import Derived.Test.YtgedpebnipghlaaGr13
import Derived.Test.YtgedpebnipghlaaGr10
import Derived.Test.YtgedpebnipghlaaGr01
import Derived.Test.YtgedpebnipghlaaGr08
namespace Go.Proofs.Ytgedpebnipghlaa
open Go.RowKit
set_option linter.unusedVariables false
set_option linter.unusedSimpArgs false
set_option maxRecDepth 4000

theorem intsN_at {l : List Nat} {k : Nat} (h : k < l.length) : nth (intsN l) k = ((l[k] : Nat) : Int) := by
  simp [nth, intsN, List.getD, List.getElem?_map, List.getElem?_eq_getElem h]
theorem tok_take {l : List Nat} {k : Nat} (h : k < l.length) (j : Nat) : tok (l.take (k + 1)) j = if j = l[k] then 1 else tok (l.take k) j := by
  rw [List.take_succ_eq_append_getElem h]
  simp only [tok, List.mem_append, List.mem_singleton]
  by_cases e : j = l[k]
  · simp [e]
  · simp [e]

set_option maxHeartbeats 1000000 in
theorem gweights_any (x n : Nat) (v : Value) (l : List Nat) (w : World) (hx : w.cell? ⟨x, 0, none⟩ = some (.int .i64 (n : Int))) (hn : n ≤ 1000) (hv : Ints w v (intsN l)) (hl : ∀ r ∈ l, r < n) :
    Calls Try.prog 68 #[.pointer (some ⟨x, 0, none⟩), v] w fun e w' => ∃ a c, e = .returned (.slice a n c) ∧ On (fun k => w.heap.size ≤ k) w' (fun w'' => Ints w'' (.slice a n c) (weightG n l)) ∧ Below w.heap.size w w' := by
  obtain ⟨a, len, cap, rfl, hlen, hmx, hsh, hr⟩ := id hv
  rw [intsN_length] at hlen
  clear hr hsh
  obtain ⟨w1, hmk, hR⟩ := make_intsZ w n (n : Int) rfl (by omega)
  have Hl : Hid _ := hl
  have Hlen : Hid _ := hlen
  have Hv : Hid _ := hv
  clear hl hlen hv
  go_enter Try.func68, Try.ntmps68
  go_wp2_with fail
  have HR : Hid (RowAt w.heap.size w w1 n (tok (l.take 0))) := hR.same fun j _ => by simp [tok]
  clear hR hmk
  go_loopg [15] len (fun gk i wr => ∃ k : Nat, k + gk = len ∧ i = .int .i64 k ∧ Hid (RowAt w.heap.size w wr n (tok (l.take k))))
  case atStart => exact ⟨0, by omega, rfl, HR⟩
  case round =>
    clear HR
    obtain ⟨k, hkg, rfl, HR⟩ := hrel
    by_cases hk : k < len
    · have Hkl : Hid (k < l.length) := by show k < l.length; rw [Hlen.out]; exact hk
      obtain ⟨b, off, rfl, _, hblt, hc⟩ := ints_cell Hv.out (j := k) (by rw [intsN_length]; exact Hkl.out)
      rw [intsN_at Hkl.out] at hc
      have hrn : l[k]'Hkl.out < n := Hl.out _ (List.getElem_mem _)
      have Ht : Hid _ := tok_take Hkl.out
      obtain ⟨r, Hr⟩ : ∃ r, Hid (l[k]'Hkl.out = r) := ⟨_, rfl⟩
      rw [Hr.out] at hc hrn Ht
      replace hc := (HR.out.below.cell (p := ⟨b, off + k, none⟩) hblt).trans hc
      have c0 := HR.out.cells r hrn
      have c1 := HR.out.frozen r hrn
      have R : Hid (RowAt w.heap.size w (wr.setCell ⟨w.heap.size, r, none⟩ (.int .i64 1)) n (tok (l.take (k + 1)))) := HR.out.put hrn (by rw [Ht.out r, if_pos rfl]) fun j _ hj => by rw [Ht.out j, if_neg hj]
      clear HR Ht
      go_wp2
      go_roundg (gk - 1)
      case measure => omega
      case rel => exact ⟨k + 1, by omega, by go_num, R⟩
    · have ek : k = len := by omega
      subst ek
      have e : l.take k = l := List.take_of_length_le (by have := Hlen.out; omega)
      rw [e] at HR
      have R1 : Hid (On (fun k => w.heap.size ≤ k) wr (fun w'' => Ints w'' (.slice (some ⟨w.heap.size, 0, none⟩) n n) (weightG n l))) := HR.out.on (weight_length _ _) (fun j hj => mapTo_nth _ _ _ hj) (by omega) (Nat.le_refl _) (by omega)
      have R2 : Hid _ := HR.out.below
      clear HR
      go_wp2
      go_ret
      exact ⟨_, _, rfl, R1.out, R2.out⟩

/-- A link, where it lies. -/
theorem GrowAt.elem {B x : Nat} {W wr : World} {g : GrowL} {lv : Value} {us vs : List Value} (h : GrowAt B x W wr g lv us vs) {j : Nat} (hj : j < g.links.length) :
    ∃ gb c, lv = .slice (some ⟨gb, 0, none⟩) g.links.length c ∧ gb < wr.heap.size ∧ wr.cell? ⟨gb, j * 3, none⟩ = some (.int .i64 (linkAt g.links j).label) ∧ wr.cell? ⟨gb, j * 3 + 1, none⟩ = some (valAt us j) ∧ wr.cell? ⟨gb, j * 3 + 2, none⟩ = some (valAt vs j) := by
  rcases h.row.2 with ⟨e, h0⟩ | ⟨gb, c, cur, e, _⟩
  · omega
  · have ho := h.row
    rw [e] at ho
    obtain ⟨q1, q2, q3⟩ := triTo_at (fun j => .int .i64 (linkAt g.links j).label) (valAt us) (valAt vs) hj
    refine ⟨gb, c, e, (ownsRow_lt h.row (k := gb) (by rw [e]; rfl)).2, ?_, ?_, ?_⟩
    · rw [ho.cellAt (j * 3) (by omega)]; exact q1
    · rw [ho.cellAt (j * 3 + 1) (by omega)]; exact q2
    · rw [ho.cellAt (j * 3 + 2) (by omega)]; exact q3

/-- What has been made is read as long as it stands. -/
theorem TurnOut.reads {x : Nat} {p : Int} {w0 wr : World} {ts us : List TranL} {ov : Value} {tv : List (Int × Value × Value)} (h : TurnOut x p w0 wr ts ov tv) (hl : tv.length ≤ 2513169434916) (hu : us.length = tv.length)
    (hx : ∀ j, j < tv.length → (tranAt us j).label = (tranAt ts j).label ∧ (tranAt us j).pre = (tranAt ts j).post ∧ (tranAt us j).post = (tranAt ts j).pre) : On (fun k => x < k) wr (fun w' => Trans w' ov us) := by
  intro w' hs hk
  refine tran_read ((ownsRow_on h.own) w' hs fun k hlt q => hk k hlt (by have := q.2; omega)) hl hu fun j hj => ?_
  obtain ⟨e1, e2, e3⟩ := h.row j hj
  obtain ⟨q1, q2, q3⟩ := hx j hj
  rw [q1, q2, q3]
  exact ⟨e1, e2 w' hs fun k hlt q => hk k hlt q.1, e3 w' hs fun k hlt q => hk k hlt q.1⟩

theorem netG_turned {g : GrowL} {j : Nat} (hj : j < g.links.length) : tranAt (turnL (netG g)).trans j = ⟨(linkAt g.links j).label, weightG g.places (linkAt g.links j).dst, weightG g.places (linkAt g.links j).src⟩ := by
  rw [turn_tran _ (by rw [net_count]; exact hj), net_tran_at hj, linkAt_get hj]; rfl

abbrev wholeLoad : Op := Op.load 22 (Operand.tmp 20)

set_option maxHeartbeats 2000000 in
theorem whole_any {B x : Nat} {W w : World} {g : GrowL} {lv : Value} {us vs : List Value} (hG : GrowAt B x W w g lv us vs) (hf : FitG g) (hin : InG g) :
    Calls Try.prog 44 #[.pointer (some ⟨x, 0, none⟩)] w fun e w' => ∃ a c, e = .returned (.agg #[.int .i64 (g.places : Int), .slice a g.links.length c]) ∧ On (fun k => w.heap.size < k) w' (fun w'' => Trans w'' (.slice a g.links.length c) (netG g).trans) ∧ Below w.heap.size w w' := by
  obtain ⟨n, Hn⟩ : ∃ n, Hid (g.places = n) := ⟨_, rfl⟩
  obtain ⟨len, Hlen⟩ : ∃ len, Hid (g.links.length = len) := ⟨_, rfl⟩
  have hn16 : n ≤ 16 := by rw [← Hn.out]; exact hf.1
  have hl24 : len ≤ 24 := by rw [← Hlen.out]; exact hf.2
  have b1 := below_new w (.cells #[.int .i64 0, .slice none 0 0] 24)
  have hres := box2_new w (.int .i64 0) (.slice none 0 0) 24
  have hfr : ∀ j, (w.alloc (.cells #[.int .i64 0, .slice none 0 0] 24)).frozen? ⟨w.heap.size, j, none⟩ = false := fun j => by rw [World.frozen?_alloc_at _ _ _ _ rfl]
  have hsz : (w.alloc (.cells #[.int .i64 0, .slice none 0 0] 24)).heap.size = w.heap.size + 1 := by simp
  obtain ⟨W0, HW0⟩ : ∃ W0, Hid (w.alloc (.cells #[.int .i64 0, .slice none 0 0] 24) = W0) := ⟨_, rfl⟩
  rw [HW0.out] at b1 hres hfr hsz
  have Hsz : Hid _ := hsz
  clear hsz
  have Hres : Hid _ := hres
  have Hfr : Hid _ := hfr
  have hG0 := hG.to b1
  have hst := turn_start W0 (n : Int) (turnL (netG g)).trans W0.heap.size rfl
  have bn := below_new W0 (.cells #[.int .i64 (n : Int), .slice none 0 0] 24)
  have hG1 := hG0.to bn
  obtain ⟨W1, HW1⟩ : ∃ W1, Hid (W0.alloc (.cells #[.int .i64 (n : Int), .slice none 0 0] 24) = W1) := ⟨_, rfl⟩
  rw [HW1.out] at hst bn hG1
  obtain ⟨d0, d1, f0, f1⟩ := hG0.at
  obtain ⟨t0, t1, s0, s1⟩ := hG1.at
  rw [Hn.out] at d0 t0 ⊢
  rw [Hlen.out]
  obtain ⟨al, cl, hlv⟩ := hG.slice
  rw [Hlen.out] at hlv
  have HGa : Hid _ := hG0
  have Hin : Hid _ := hin
  subst hlv
  clear hres hfr hG hf hin hG0 hG1
  go_enter Try.func44, Try.ntmps44
  go_upto_region 1 with fail
  rw [HW0.out]
  clear HW0
  go_upto_region 2 with fail
  rw [HW1.out]
  clear HW1
  go_wp2_with fail
  clear d0 d1 f0 f1 t0 t1 s0 s1
  go_loopg [16] len (fun gk i wr => ∃ (k : Nat) (ov : Value) (tv : List (Int × Value × Value)), k + gk = len ∧ i = .int .i64 k ∧ Hid (tv.length = k) ∧ TurnOut W0.heap.size (n : Int) W0 wr (turnL (netG g)).trans ov tv)
  case atStart => exact ⟨0, _, [], by omega, rfl, rfl, hst⟩
  case round =>
    clear hst bn
    obtain ⟨k, ov, tv, hkg, rfl, Hk, hO⟩ := hrel
    have hbw : Below W0.heap.size W0 wr := hO.below
    have hGr := HGa.out.to hbw
    by_cases hkn : k < len
    · have Hkl : Hid (k < g.links.length) := by show _ < _; rw [Hlen.out]; exact hkn
      obtain ⟨gb, c, e, hblt, h0, h1, h2⟩ := hGr.elem Hkl.out
      injection e with e1 e2 e3
      subst e1 e3
      clear e2
      obtain ⟨i1, i2⟩ := hGr.els k Hkl.out
      have i1 := i1.now
      have i2 := i2.now
      have Htr : Hid _ := netG_turned Hkl.out
      have Hsd : Hid ((∀ r ∈ (linkAt g.links k).src, r < n) ∧ ∀ r ∈ (linkAt g.links k).dst, r < n) := by
        have := Hin.out _ (List.getElem_mem Hkl.out)
        rw [← linkAt_get Hkl.out, Hn.out] at this
        exact this
      rw [Hn.out] at Htr
      generalize linkAt g.links k = t at *
      obtain ⟨a1, l1, p1, e1⟩ : ∃ a l c, valAt us k = .slice a l c := by obtain ⟨a1, l1, c1, e, _⟩ := i1; exact ⟨a1, l1, c1, e⟩
      obtain ⟨a2, l2, p2, e2⟩ : ∃ a l c, valAt vs k = .slice a l c := by obtain ⟨a1, l1, c1, e, _⟩ := i2; exact ⟨a1, l1, c1, e⟩
      rw [e1] at h1 i1
      rw [e2] at h2 i2
      clear e1 e2
      have hbn := below_new wr (.cells #[.int .i64 t.label, .slice a1 l1 p1, .slice a2 l2 p2] 90)
      have hx3 := box3_new wr (.int .i64 t.label) (.slice a1 l1 p1) (.slice a2 l2 p2) 90
      obtain ⟨wt, Hwt⟩ : ∃ wt, Hid (wr.alloc (.cells #[.int .i64 t.label, .slice a1 l1 p1, .slice a2 l2 p2] 90) = wt) := ⟨_, rfl⟩
      rw [Hwt.out] at hbn hx3
      have Hst : Hid _ := fun wB wC W v' l c1 c2 => @TurnOut.step _ _ _ _ wB wC W _ _ v' _ l c1 c2 hO
      have hO1 := hO.to hbn
      have hG1 := hGr.to hbn
      rw [Hk.out, Htr.out] at Hst
      replace i1 := i1.below hbn
      replace i2 := i2.below hbn
      obtain ⟨dd1, hd1⟩ : ∃ d1, Hid (Value.slice a1 l1 p1 = d1) := ⟨_, rfl⟩
      obtain ⟨dd2, hd2⟩ : ∃ d2, Hid (Value.slice a2 l2 p2 = d2) := ⟨_, rfl⟩
      go_upto_region 5 with fail
      rw [Hwt.out]
      rw [hd1.out] at i1
      rw [hd2.out] at i2
      rw [hd1.out, hd2.out] at hx3
      have Hlk : Hid (tv.length + 1 ≤ 2513169434916) := by show _ ≤ _; have := Hk.out; omega
      have HG1 : Hid _ := hG1
      clear h0 h1 h2 Hwt hd1 hd2 hGr hG1
      obtain ⟨x0, x1, x2, x3⟩ := id hx3
      have o1 := hO1.c1
      have o2 := hO1.f1
      have hsz1 : W0.heap.size + 1 ≤ wr.heap.size := hO.size
      have hne : ¬ W0.heap.size = wr.heap.size := by omega
      have hn1000 : n ≤ 1000 := by omega
      have Hcx : Hid (∀ w', Below wt.heap.size wt w' → w'.cell? ⟨x, 0, none⟩ = some (.int .i64 (n : Int))) := fun w' hb => by have := (HG1.out.to hb).at.1; rw [Hn.out] at this; exact this
      rw [show (Op.load 22 (Operand.tmp 20) : Op) = wholeLoad from rfl]
      go_region_held3 (fun w' => w'.cell? ⟨wr.heap.size, 0, none⟩ = some (.int .i64 t.label) ∧ w'.cell? ⟨wr.heap.size, 1, none⟩ = some dd1 ∧ w'.cell? ⟨wr.heap.size, 2, none⟩ = some dd2)
        (go_keep)
        (first
          | (go_at_call_of 68 dd1; refine (gweights_any x n _ t.src _ (Hcx.out _ (below_drewN (Below.refl wt.heap.size wt) 1)) hn1000 ?_ Hsd.out.1).mono ?_; exact i1.drewN 1; rintro e wA ⟨ax, cx, rfl, hA, bA0⟩; have bA := below_then (below_drewN (Below.refl wt.heap.size wt) 1) bA0; obtain ⟨xA0, xA1, xA2, xA3⟩ := hx3.below bA; have hOA := hO1.to bA; have oA1 := hOA.c1; have oA2 := hOA.f1)
          | (go_at_call_of 68 dd2; refine (gweights_any x n _ t.dst _ (Hcx.out _ bA) hn1000 ?_ Hsd.out.2).mono ?_; exact i2.below bA; rintro e wB ⟨ay, cy, rfl, hB, bB0⟩; have bB := below_then bA bB0; obtain ⟨xB0, xB1, xB2, xB3⟩ := hx3.below bB; have hOB := hO1.to bB; have oB1 := hOB.c1; have oB2 := hOB.f1; have oB3 := (hOB.to (below_new wB (.cells #[.int .i64 t.label, .slice ax n cx, .slice ay n cy] 44))).c1)
          | (refine wpr_append_tran rfl _ _ rfl (W0.heap.size + 1) wB ov tv t.label _ _ _ _ _ _ hOB.own rfl rfl Hlk.out hOB.size ?_; intro v' wC hC hgC hatC; obtain ⟨av, lv, cv, rfl⟩ := ownsRow_slice hC; obtain ⟨oC1, oC2, hcc⟩ := hO.after (below_then hbn (below_then bB (below_new _ _))) hgC; have hx4 := hx3.below (below_then bB (below_new wB (.cells #[.int .i64 t.label, .slice ax n cx, .slice ay n cy] 44))); have xC1 := (hcc ⟨wr.heap.size, 0, none⟩ (Nat.le_refl _) hx4.1).trans hx4.2.1; have xC2 := (hcc ⟨wr.heap.size, 1, none⟩ (Nat.le_refl _) hx4.1).trans hx4.2.2.1; have xC3 := (hcc ⟨wr.heap.size, 2, none⟩ (Nat.le_refl _) hx4.1).trans hx4.2.2.2))
      all_goals
        have q1 := (hA.weaken (D' := fun k => wr.heap.size ≤ k) fun k _ hk => Nat.le_trans hbn.size hk).below bB0
        have q2 := hB.weaken (D' := fun k => wr.heap.size ≤ k) fun k _ hk => Nat.le_trans (Nat.le_trans hbn.size bA.size) hk
        rw [Hk.out] at hC
        have R := Hst.out wB wC _ _ t.label _ _ (below_then hbn bB) q1 q2 rfl (below_new _ _) hC hgC hatC
        have Hk2 : Hid ((tv ++ [(t.label, Value.slice ax n cx, Value.slice ay n cy)]).length = k + 1) := by show _ = _; have := Hk.out; simp [this]
        clear q1 q2 hC hgC hatC Hst hcc hx4 xC1 xC2 xC3 oC1 oC2 xB0 xB1 xB2 xB3 xA0 xA1 xA2 xA3 oA1 oA2 oB1 oB2 oB3 hA hB bA bB hOA hOB x0 x1 x2 x3 o1 o2 hO hO1 hbn hx3 bA0 bB0 i1 i2
        go_wp2
        go_roundg (gk - 1)
        case measure => omega
        case rel => exact ⟨k + 1, _, _, by omega, by go_num, Hk2, R⟩
    · obtain rfl : k = len := by omega
      obtain ⟨z0, z1⟩ := And.intro hO.c0 hO.c1
      have hsl : ∃ a c, ov = .slice a k c := by
        have := hO.own
        rw [Hk.out] at this
        rcases this.2 with ⟨e, h0⟩ | ⟨gb, c, cur, e, _⟩
        · exact ⟨none, 0, by rw [e, h0]⟩
        · exact ⟨_, _, e⟩
      obtain ⟨ax, cx, rfl⟩ := hsl
      obtain ⟨r0, r1, r2⟩ := Box2.below Hres.out hbw
      have q3 : wr.frozen? ⟨w.heap.size, 0, none⟩ = false := by rw [hbw.frozen (p := ⟨w.heap.size, 0, none⟩) (by have := Hsz.out; simp; omega)]; exact Hfr.out 0
      have q4 : wr.frozen? ⟨w.heap.size, 1, none⟩ = false := by rw [hbw.frozen (p := ⟨w.heap.size, 1, none⟩) (by have := Hsz.out; simp; omega)]; exact Hfr.out 1
      have hb5 : Below w.heap.size w ((wr.setCell ⟨w.heap.size, 0, none⟩ (.int .i64 (n : Int))).setCell ⟨w.heap.size, 1, none⟩ (.slice ax k cx)) :=
        ((below_then b1 hbw).setCell (p := ⟨w.heap.size, 0, none⟩) (by simp) _).setCell (p := ⟨w.heap.size, 1, none⟩) (by simp) _
      have hTr : On (fun k => w.heap.size < k) ((wr.setCell ⟨w.heap.size, 0, none⟩ (.int .i64 (n : Int))).setCell ⟨w.heap.size, 1, none⟩ (.slice ax k cx)) (fun w'' => Trans w'' (.slice ax k cx) (netG g).trans) := by
        have h1 := hO.reads (us := (netG g).trans) (by have := Hk.out; omega) (by rw [net_count, Hk.out, Hlen.out]) (fun j hj => by
          have hjl : j < g.links.length := by have := Hk.out; have := Hlen.out; omega
          rw [netG_turned hjl, net_tran_at hjl, linkAt_get hjl]; exact ⟨rfl, rfl, rfl⟩)
        have h2 := h1.weaken (D' := fun k => w.heap.size < k) (fun k _ hk => by have := Hsz.out; omega)
        exact (h2.set (a := ⟨w.heap.size, 0, none⟩) (by simp) _).set (a := ⟨w.heap.size, 1, none⟩) (by simp) _
      have HTr : Hid (On (fun k => w.heap.size < k) ((wr.setCell ⟨w.heap.size, 0, none⟩ (.int .i64 (n : Int))).setCell ⟨w.heap.size, 1, none⟩ (.slice ax k cx)) (fun w'' => Trans w'' (.slice ax k cx) (netG g).trans)) := hTr
      have Hb5 : Hid _ := hb5
      clear hTr hb5 hGr
      go_wp2_with fail
      refine bodyPost_ret (v := .agg #[.int .i64 (n : Int), .slice ax k cx]) ?_ rfl ⟨_, _, rfl, HTr.out, Hb5.out⟩
      simp [results, Try.results44, go_sem, r1, r2]

end Go.Proofs.Ytgedpebnipghlaa
