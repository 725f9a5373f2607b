/- The document's own texts: OParse. (Made by tools/gen_textref7.py.) -/
import Derived.Test.YteeogdihaajicaaDoorTextRef6
import Derived.Test.YteeogdihaajicaaDoorTextDev4
namespace Go.Proofs.YteeogdihaajicaaDoor
open Go.RowKit
set_option linter.unusedVariables false
set_option linter.unusedSimpArgs false
set_option maxRecDepth 4000

/-! ### plainly -/
theorem first_parts {a d r1 : Bytes} {m : Int} (hm : 0 ≤ m) (e : a = firstT m) (h : a.drop 4 = d ++ r1) (hd : ∀ b ∈ d, isDig b) (hr : ¬ HeadIs isDig r1) : Lib.itoa m = d ∧ r1 = [] := by
  have h1 : a.drop 4 = Lib.itoa m ++ [] := by rw [e]; unfold firstT; simp
  rw [h] at h1
  obtain ⟨e1, e2⟩ := part_one (p := isDig) hd (itoa_dig hm) hr (by rintro ⟨b, r, q, _⟩; cases q) h1
  exact ⟨e1.symm, e2⟩
theorem ofirst_no1 {a : Bytes} (h : ¬ ∃ r, a.drop 0 = [110, 101, 116, 32] ++ r) (n : Int) : FirstIs a n false := .inr ⟨rfl, fun m h3 h4 e => h ⟨Lib.itoa m, by rw [e]; rfl⟩⟩
theorem ofirst_no2 {a d r1 : Bytes} {p : Int} {ok : Bool} (h : a.drop 4 = d ++ r1) (hd : ∀ b ∈ d, isDig b) (hr : ¬ HeadIs isDig r1) (hn : NumD d p ok) (hb : ok = false ∨ 16 < p ∨ r1 ≠ []) (n : Int) : FirstIs a n false := .inr ⟨rfl, fun m h3 h4 e => by
  obtain ⟨e1, e2⟩ := first_parts h3 e h hd hr
  obtain ⟨q1, q2⟩ := numD_is hn h3 h4 e1
  rcases hb with q | q | q
  · rw [q1] at q; cases q
  · omega
  · exact q e2⟩
theorem ofirst_yes {a d r1 : Bytes} {p : Int} (h : a.drop 4 = d ++ r1) (hn : NumD d p true) (hp : ∃ r, a.drop 0 = [110, 101, 116, 32] ++ r) (h2 : p ≤ 16) (h3 : r1 = []) : FirstIs a p true := by
  rcases hn with ⟨_, q1, q2⟩ | ⟨q, _⟩
  · obtain ⟨r, e⟩ := hp
    refine .inl ⟨rfl, q1, h2, ?_⟩
    have e0 : a = [110, 101, 116, 32] ++ r := e
    have e4 : a.drop 4 = r := by rw [e0]; rfl
    rw [e0]
    unfold firstT
    rw [← e4, h, h3, List.append_nil, q2]
  · cases q
theorem Tabs15.up {B C : Nat} {w : World} (h : Tabs15 B w) (hC : B ≤ C) : Tabs15 C w := by
  obtain ⟨tp, p, h2⟩ := h.e2
  obtain ⟨tq, q, h3⟩ := h.e3
  exact ⟨fun w' hw => h.tab w' (hw.mono hC), ⟨tp, p, fun w' hw => h2 w' (hw.mono hC)⟩, ⟨tq, q, fun w' hw => h3 w' (hw.mono hC)⟩⟩
theorem NetOut.places {x : Nat} {p : Int} {w0 wr : World} {us : List TranL} {ov : Value} {tv : List (Int × Value × Value)} (h : NetOut x p w0 wr us ov tv) (q : Int) : NetOut x q w0 (wr.setCell ⟨x, 0, none⟩ (.int .i64 q)) us ov tv := by
  refine ⟨ownsRow_setCell_below h.own (a := ⟨x, 0, none⟩) (Nat.lt_succ_self x) _, h.len, h.below.setCell (p := ⟨x, 0, none⟩) (Nat.le_refl _) _, by simpa [World.setCell] using h.size, World.cell?_setCell_same _ _ _ h.c0, ?_, by rw [World.frozen?_setCell]; exact h.f0, by rw [World.frozen?_setCell]; exact h.f1, fun j hj => ?_⟩
  · rw [World.cell?_setCell_other _ _ _ _ (by intro q; injection q with _ q; omega)]; exact h.c1
  · obtain ⟨e1, e2, e3⟩ := h.row j hj
    exact ⟨e1, e2.set (a := ⟨x, 0, none⟩) (fun q => Nat.lt_irrefl x q.1) _, e3.set (a := ⟨x, 0, none⟩) (fun q => Nat.lt_irrefl x q.1) _⟩
theorem NetOut.afterB {x : Nat} {p : Int} {w0 w6 w7 : World} {us : List TranL} {ov v' : Value} {tv : List (Int × Value × Value)} (h : NetOut x p w0 w6 us ov tv) (o : Obj) (hg : (w6.alloc o).grownBy w7 ov.ownBlock) : Below x w6 (w7.setCell ⟨x, 1, none⟩ v') := by
  have hb := (below_new w6 o).mono (Nat.le_of_lt (show x < w6.heap.size from h.size))
  refine (hb.grown hg (by have := h.size; simp; omega) (fun k hk => by have := ownsRow_lt h.own hk; omega)).setCell (p := ⟨x, 1, none⟩) (Nat.le_refl _) _

/-- Where it stands: ahead of the first line, or behind it and some more. -/
def OSt (s : Bytes) (X : Nat) (w0 wr : World) (k f : Nat) : Prop :=
  (k = 0 ∧ f = 0 ∧ NetOut X 0 w0 wr [] (.slice none 0 0) []) ∨ ∃ P ts ov tv, k = ts.length + 1 ∧ f ≤ s.length ∧ 0 < f ∧ NetOut X ((P : Nat) : Int) w0 wr ts ov tv ∧ Lines s P ts (s.drop f)
theorem str_cut0 {s : Bytes} {b : Nat} (h2 : b ≤ s.length) (w : World) : (Instr.slice 9 (.string (bs s)) none (some (.int .i64 (b : Int))) none).run Tryd.prog w = .ok (.string (bs (s.take b))) w := by
  rw [run_slice_string_h (P := Tryd.prog) w 9 (bs s) Tryd.underlying9 .i64 b (by omega) (by rw [bs_size]; omega)]
  have e : (bs s).extract 0 ((b : Int)).toNat = bs (s.take b) := by
    rw [← bs_of ((bs s).extract 0 ((b : Int)).toNat), show ((b : Int)).toNat = b by omega, ByteArray.data_extract]
    simp [bs, List.extract_eq_take_drop]
  rw [e]
/-- The line that begins at f ends at e. -/
theorem line_end {s : Bytes} {f e : Nat} (h1 : f ≤ e) (hx : s[e]? = some 10) (h2 : (10 : UInt8) ∉ (s.drop f).take (e - f)) : s.drop f = (s.drop f).take (e - f) ++ 10 :: s.drop (e + 1) := by
  have he : e < s.length := (List.getElem?_eq_some_iff.1 hx).1
  conv => lhs; rw [← List.take_append_drop (e - f) (s.drop f)]
  rw [List.drop_drop, show f + (e - f) = e by omega, List.drop_eq_getElem_cons he]
  congr 2
  have := (List.getElem?_eq_some_iff.1 hx).2
  exact this
theorem take_next {s : Bytes} {f e : Nat} {x : UInt8} (h1 : f ≤ e) (hx : s[e]? = some x) (hne : x ≠ 10) (h2 : (10 : UInt8) ∉ (s.drop f).take (e - f)) : (10 : UInt8) ∉ (s.drop f).take (e + 1 - f) := by
  rw [show e + 1 - f = (e - f) + 1 by omega, List.take_add_one, List.getElem?_drop, show f + (e - f) = e by omega, hx]
  intro hm
  rcases List.mem_append.1 hm with hm | hm
  · exact h2 hm
  · have : (10 : UInt8) = x := by simpa using hm
    exact hne this.symm

set_option maxHeartbeats 16000000 in
theorem oparse_any (s : Bytes) (w : World) (hT : Tabs15 w.heap.size w) (hs : s.length ≤ 1048576) :
    Calls Tryd.prog 10 #[.string (bs s)] w fun e w' => ParseOut s w' e ∧ Below w.heap.size w w' := by
  have b0 := below_new w (.cells #[.int .i64 0, .slice none 0 0] 24)
  have hbx := box2_new w (.int .i64 0) (.slice none 0 0) 24
  have hfz : ∀ j, (w.alloc (.cells #[.int .i64 0, .slice none 0 0] 24)).frozen? ⟨w.heap.size, j, none⟩ = false := fun j => World.frozen?_alloc_at _ _ _ _ rfl
  obtain ⟨w0, H0⟩ : ∃ u, Hid (w.alloc (.cells #[.int .i64 0, .slice none 0 0] 24) = u) := ⟨_, rfl⟩
  obtain ⟨R, HR⟩ : ∃ z, Hid (w.heap.size = z) := ⟨_, rfl⟩
  have hw0 : w0.heap.size = R + 1 := by rw [← H0.out, ← HR.out]; simp
  rw [H0.out, HR.out] at hbx hfz
  rw [H0.out] at b0
  have hR9 : Hid (w.heap.size ≤ R) := Nat.le_of_eq HR.out
  obtain ⟨X, HX⟩ : ∃ z, Hid (w0.heap.size = z) := ⟨_, rfl⟩
  have hO := netOut_new w0 0 X HX.out.symm
  have HRX : Hid (R < X) := by have := HX.out; show _ < _; omega
  obtain ⟨wn, Hwn⟩ : ∃ u, Hid (w0.alloc (.cells #[.int .i64 0, .slice none 0 0] 24) = u) := ⟨_, rfl⟩
  rw [Hwn.out] at hO
  have bn : Below w.heap.size w wn := by
    have h1 := below_new w0 (.cells #[.int .i64 0, .slice none 0 0] 24)
    rw [Hwn.out] at h1
    exact below_then b0 h1
  obtain ⟨n, Hn⟩ : ∃ z, Hid (s.length = z) := ⟨_, rfl⟩
  have z1 : (bs s).size = n := (bs_size s).trans Hn.out
  have hsn : n ≤ 1048576 := by rw [← Hn.out]; exact hs
  have HbX : Hid (Below X w0 wn) := hO.below
  have HB0 : Hid (Box2 w0 R (.int .i64 0) (.slice none 0 0) ∧ ∀ j, w0.frozen? ⟨R, j, none⟩ = false) := ⟨hbx, hfz⟩
  have Hb0 : Hid (Below w.heap.size w w0) := b0
  clear hbx hfz b0 hw0
  go_enter Tryd.func10, Tryd.ntmps10
  go_upto_region 1 with fail
  rw [H0.out, HR.out]
  go_upto_region 4 with fail
  rw [HX.out, Hwn.out]
  go_loopg [6, 7] (n + 2) (fun gk r6 r7 wr => ∃ k f : Nat, r6 = .int .i64 (k : Int) ∧ r7 = .int .i64 (f : Int) ∧ gk = n + 2 - f ∧ OSt s X w0 wr k f)
  case atStart => exact ⟨0, 0, rfl, rfl, by omega, .inl ⟨rfl, rfl, hO⟩⟩
  case round =>
    clear hO Hwn bn HbX
    obtain ⟨k, f, rfl, rfl, hg, hSt⟩ := hrel
    obtain ⟨g1, rfl⟩ : ∃ z, z = gk := ⟨_, rfl⟩
    have HSt : Hid (OSt s X w0 wr k f) := hSt
    clear hSt
    have hfn : f ≤ n := by
      rcases HSt.out with ⟨_, q, _⟩ | ⟨P, ts, ov, tv, _, q, _⟩
      · omega
      · rw [← Hn.out]; exact q
    have hk25 : k ≤ 25 := by
      rcases HSt.out with ⟨q, _⟩ | ⟨P, ts, ov, tv, q, _, _, _, hL⟩
      · omega
      · have := hL.many; omega
    have hbXr : Below X w0 wr := by
      rcases HSt.out with ⟨_, _, q⟩ | ⟨P, ts, ov, tv, _, _, _, q, _⟩
      · exact q.below
      · exact q.below
    have HbXr : Hid (Below X w0 wr) := hbXr
    clear hbXr
    have HRbox : Hid (∀ wz, Below X w0 wz → Box2 wz R (.int .i64 0) (.slice none 0 0) ∧ (∀ j, wz.frozen? ⟨R, j, none⟩ = false) ∧ Below w.heap.size w wz) := fun wz hz => by
      have hR0 := HB0.out.1
      refine ⟨⟨Nat.lt_of_lt_of_le hR0.1 hz.size, by rw [hz.cell (p := ⟨R, 0, none⟩) HRX.out]; exact hR0.2.1, by rw [hz.cell (p := ⟨R, 1, none⟩) HRX.out]; exact hR0.2.2⟩, fun j => by rw [hz.frozen (p := ⟨R, j, none⟩) HRX.out]; exact HB0.out.2 j, ?_⟩
      exact Hb0.out.trans (hz.mono (by have := HRX.out; have := HR.out; omega))
    by_cases hgo : f < n ∨ k = 0
    · by_cases hf : f < n
      · have n1 : decide ((f : Int) < (n : Int)) = true := by rw [decide_eq_true_eq]; omega
        clear hgo
        go_upto_region 7 with fail
        clear n1
        go_loopg [8] (n - f) (fun gk r8 wq => ∃ e : Nat, f ≤ e ∧ e + gk = n ∧ r8 = .int .i64 (e : Int) ∧ wq = wr ∧ (10 : UInt8) ∉ (s.drop f).take (e - f))
        case atStart => exact ⟨f, by omega, by omega, rfl, rfl, by simp⟩
        case round =>
          obtain ⟨e, hfe, hge, rfl, rfl, hno⟩ := hrel
          obtain ⟨g2, rfl⟩ : ∃ z, z = gk := ⟨_, rfl⟩
          have Hno : Hid ((10 : UInt8) ∉ (s.drop f).take (e - f)) := hno
          clear hno
          by_cases he : e < n
          · have n1 : decide ((e : Int) < (n : Int)) = true := by rw [decide_eq_true_eq]; omega
            obtain ⟨x, hx⟩ : ∃ x, s[e]? = some x := ⟨_, List.getElem?_eq_getElem (by rw [Hn.out]; exact he)⟩
            have Hx : Hid (s[e]? = some x) := hx
            have hIx := fun w => str_at hx w
            clear hx
            obtain ⟨c, Hc⟩ : ∃ z, Hid (x.toNat = z) := ⟨_, rfl⟩
            rw [Hc.out] at hIx
            by_cases hc : c = 10
            · have n2 : ((c : Int) != 10) = false := by rw [hc]; rfl
              have hx10 : x = 10 := UInt8.toNat_inj.1 (by rw [Hc.out, hc]; rfl)
              have HLn : Hid (s.drop f = (s.drop f).take (e - f) ++ 10 :: s.drop (e + 1)) := line_end hfe (by rw [Hx.out, hx10]) Hno.out
              obtain ⟨a, HAa⟩ := hideEx ((s.drop f).take (e - f))
              rw [HAa.out] at HLn Hno
              have hal : a.length ≤ 1048576 := by rw [← HAa.out, List.length_take, List.length_drop, Hn.out]; omega
              have haLen : a.length = e - f := by rw [← HAa.out, List.length_take, List.length_drop, Hn.out]; omega
              have n3 : decide ((k : Int) ≤ 24) = decide (k ≤ 24) := by by_cases q : k ≤ 24 <;> simp [q] <;> omega
              clear hx10 hc
              rcases HSt.out with ⟨hk0, hf0, hN⟩ | ⟨P, ts, ov, tv, hkt, hf1, hf2, hN, hL⟩
              · have Hk0 : Hid (k = 0) := hk0
                have nk : ((k : Int) == 0) = true := by rw [hk0]; rfl
                have n4 : decide ((k : Int) ≤ 24) = true := by rw [decide_eq_true_eq]; omega
                have hk24 : k ≤ 24 := by omega
                have hta : s.take e = a := by rw [← HAa.out, hf0]; simp
                have HS0 : Hid (s = a ++ 10 :: s.drop (e + 1)) := by have := HLn.out; rw [hf0] at this; exact this
                have hae : a.length = e := by omega
                have hSl := fun w => str_cut0 (s := s) (b := e) (by rw [Hn.out]; omega) w
                rw [hta] at hSl
                clear hk0 hf0 hta haLen n3
                have bA := below_new wr (.cells #[.string (bs a), .int .i64 0] 54)
                have hq := box2_new wr (.string (bs a)) (.int .i64 0) 54
                have hqf : (wr.alloc (.cells #[.string (bs a), .int .i64 0] 54)).frozen? ⟨wr.heap.size, 1, none⟩ = false := World.frozen?_alloc_at _ _ _ _ rfl
                obtain ⟨w1, H1⟩ : ∃ u, Hid (wr.alloc (.cells #[.string (bs a), .int .i64 0] 54) = u) := ⟨_, rfl⟩
                obtain ⟨B, HB⟩ : ∃ z, Hid (wr.heap.size = z) := ⟨_, rfl⟩
                rw [H1.out, HB.out] at hq hqf
                rw [H1.out] at bA
                have hRd1 : Rd w1 B a 0 := ⟨by simpa using hq, hqf, Nat.zero_le _⟩
                have hBX : Hid (X < B) := by have h1 := hN.size; have h2 := HB.out; show X < B; omega
                have HwB : Hid (w.heap.size ≤ B) := by have h1 := (HRbox.out wr HbXr.out).2.2.size; have h2 := HB.out; show _ ≤ B; omega
                have hT1 : Tabs15 B w1 := (hT.on ((HRbox.out wr HbXr.out).2.2.trans (bA.mono (HRbox.out wr HbXr.out).2.2.size))).up HwB.out
                have hSk := skip_any hRd1 [110, 101, 116, 32] ⟨#[110, 101, 116, 32]⟩ rfl (by decide) hal
                have bA' : Below B wr w1 := by have := bA; rw [HB.out] at this; exact this
                clear hq hqf bA
                by_cases hp : ∃ r, a.drop 0 = [110, 101, 116, 32] ++ r
                · have Hp : Hid (∃ r, a.drop 0 = [110, 101, 116, 32] ++ r) := hp
                  go_upto_region 12 with fail
                  rw [H1.out, HB.out]
                  go_upto_region 13 with (go_at_call 24; refine hSk.mono ?_; rintro en w2 ⟨hSk2, hO2⟩; obtain ⟨rfl, hR2⟩ := skip_yes hSk2 hp)
                  have hR2 : Rd w2 B a 4 := hR2
                  have hT2 := hT1.on hO2.below
                  clear hSk hSk2 hp
                  have hNm := num_any hR2 hT2 (Nat.le_refl _) hal
                  go_upto_region 14 with (go_at_call 25; refine hNm.mono ?_; rintro en w4 ⟨⟨pp, ok, d, r1, rfl, hdr, hdd, hr1, hnd, hR4⟩, hO4⟩)
                  have Hdr : Hid (a.drop 4 = d ++ r1) := hdr
                  have Hdd : Hid (∀ b ∈ d, isDig b) := hdd
                  have Hr1 : Hid (¬ HeadIs isDig r1) := hr1
                  have Hnd : Hid (NumD d pp ok) := hnd
                  obtain ⟨m, Hm⟩ : ∃ z, Hid (4 + d.length = z) := ⟨_, rfl⟩
                  rw [Hm.out] at hR4
                  have Hml : Hid (m + r1.length = e) := by
                    have h1 := congrArg List.length hdr
                    rw [List.length_drop, List.length_append] at h1
                    have h2 := hR4.le
                    have h3 := Hm.out
                    show _ = _
                    omega
                  have b4 : Below B wr w4 := bA'.trans (hO2.below.trans hO4.below)
                  have hN4 := hN.to (by rw [HB.out]; exact b4)
                  have hNp := hN4.places pp
                  have bX4 : Below X w0 (w4.setCell ⟨X, 0, none⟩ (.int .i64 pp)) := hNp.below
                  obtain ⟨_, q0, q1⟩ := id hR4.box
                  have y0 := hN4.c0
                  have y1 := hN4.f0
                  obtain ⟨w5, H5⟩ : ∃ u, Hid (w4.setCell ⟨X, 0, none⟩ (.int .i64 pp) = u) := ⟨_, rfl⟩
                  rw [H5.out] at hNp bX4
                  clear hNm hdr hdd hr1 hnd hT2 hT1 hR2 hRd1 hO2 hO4 bA' hN4 hN hSl hIx
                  by_cases hgood : ok = true ∧ pp ≤ 16 ∧ m = e
                  · obtain ⟨rfl, hp16, hme⟩ := hgood
                    have hr1n : r1 = [] := List.length_eq_zero_iff.1 (by have := Hml.out; omega)
                    have hF : FirstIs a pp true := ofirst_yes Hdr.out Hnd.out Hp.out hp16 hr1n
                    obtain ⟨P, rfl, hP16, hL0⟩ := first_good HS0.out hF
                    have n5 : decide ((P : Int) ≤ 16) = true := by rw [decide_eq_true_eq]; exact hp16
                    have n6 : ((m : Int) == (e : Int)) = true := by rw [hme]; simp
                    have we : IntKind.i64.wrap ((e : Int) + 1) = ((e + 1 : Nat) : Int) := by rw [show (e : Int) + 1 = ((e + 1 : Nat) : Int) by omega]; exact Go.IntWalk.i64_in _ ⟨by omega, by omega⟩
                    have wk : IntKind.i64.wrap ((k : Int) + 1) = ((k + 1 : Nat) : Int) := by rw [show (k : Int) + 1 = ((k + 1 : Nat) : Int) by omega]; exact Go.IntWalk.i64_in _ ⟨by omega, by omega⟩
                    have hNew : OSt s X w0 w5 (k + 1) (e + 1) := .inr ⟨P, [], _, [], by rw [Hk0.out]; rfl, by rw [Hn.out]; omega, by omega, hNp, hL0⟩
                    clear hr1n hF hL0 hNp hme
                    go_upto_region 20 with fail
                    rw [H5.out]
                    clear q0 q1 y0 y1 n6
                    go_wp2
                    go_roundg (n + 2 - (e + 1))
                    case measure => omega
                    case rel => exact ⟨k + 1, e + 1, by go_num, by go_num, rfl, hNew⟩
                  · have Hbad : Hid (BadT s (k : Int)) := by
                      rw [Hk0.out]
                      refine first_bad2 Hno.out HS0.out (n := 0) (ofirst_no2 Hdr.out Hdd.out Hr1.out Hnd.out ?_ 0)
                      cases ok
                      · exact .inl rfl
                      · by_cases q1 : pp ≤ 16
                        · refine .inr (.inr ?_)
                          intro q
                          have := Hml.out
                          rw [q, List.length_nil] at this
                          exact hgood ⟨rfl, q1, by omega⟩
                        · exact .inr (.inl (by omega))
                    cases ok
                    · clear hgood
                      go_upto_region 20 with fail
                      rw [H5.out]
                      clear q0 q1 y0 y1 hNp
                      obtain ⟨hRB, hRf, hRb⟩ := HRbox.out w5 bX4
                      obtain ⟨_, x0, x1⟩ := id hRB
                      have g0 := hRf 0
                      have g1' := hRf 1
                      have hbW := box2_set hRB (.int .i64 0) (.slice none 0 0)
                      have bW := (hRb.setCell (p := ⟨R, 0, none⟩) hR9.out (.int .i64 0)).setCell (p := ⟨R, 1, none⟩) hR9.out (.slice none 0 0)
                      obtain ⟨W, HW⟩ : ∃ u, Hid ((w5.setCell ⟨R, 0, none⟩ (.int .i64 0)).setCell ⟨R, 1, none⟩ (.slice none 0 0) = u) := ⟨_, rfl⟩
                      rw [HW.out] at hbW bW
                      clear hRB hRf hRb
                      go_wp2
                      rw [HW.out]
                      exact bodyPost_ret (v := .tuple #[.agg #[.int .i64 0, .slice none 0 0], .int .i64 (k : Int), .int .i64 1]) (results_net2 rfl rfl rfl rfl hbW.2.1 hbW.2.2) rfl ⟨parse_no Hbad.out, bW⟩
                    · by_cases hp16 : pp ≤ 16
                      · have hme : m ≠ e := fun q => hgood ⟨rfl, hp16, q⟩
                        have n5 : decide (pp ≤ 16) = true := by rw [decide_eq_true_eq]; exact hp16
                        have n6 : ((m : Int) == (e : Int)) = false := by rw [beq_eq_false_iff_ne]; omega
                        clear hgood
                        go_upto_region 20 with fail
                        rw [H5.out]
                        clear q0 q1 y0 y1 hNp
                        obtain ⟨hRB, hRf, hRb⟩ := HRbox.out w5 bX4
                        obtain ⟨_, x0, x1⟩ := id hRB
                        have g0 := hRf 0
                        have g1' := hRf 1
                        have hbW := box2_set hRB (.int .i64 0) (.slice none 0 0)
                        have bW := (hRb.setCell (p := ⟨R, 0, none⟩) hR9.out (.int .i64 0)).setCell (p := ⟨R, 1, none⟩) hR9.out (.slice none 0 0)
                        obtain ⟨W, HW⟩ : ∃ u, Hid ((w5.setCell ⟨R, 0, none⟩ (.int .i64 0)).setCell ⟨R, 1, none⟩ (.slice none 0 0) = u) := ⟨_, rfl⟩
                        rw [HW.out] at hbW bW
                        clear hRB hRf hRb
                        go_wp2
                        rw [HW.out]
                        exact bodyPost_ret (v := .tuple #[.agg #[.int .i64 0, .slice none 0 0], .int .i64 (k : Int), .int .i64 1]) (results_net2 rfl rfl rfl rfl hbW.2.1 hbW.2.2) rfl ⟨parse_no Hbad.out, bW⟩
                      · have n5 : decide (pp ≤ 16) = false := by rw [decide_eq_false_iff_not]; exact hp16
                        clear hgood
                        go_upto_region 20 with fail
                        rw [H5.out]
                        clear q0 q1 y0 y1 hNp
                        obtain ⟨hRB, hRf, hRb⟩ := HRbox.out w5 bX4
                        obtain ⟨_, x0, x1⟩ := id hRB
                        have g0 := hRf 0
                        have g1' := hRf 1
                        have hbW := box2_set hRB (.int .i64 0) (.slice none 0 0)
                        have bW := (hRb.setCell (p := ⟨R, 0, none⟩) hR9.out (.int .i64 0)).setCell (p := ⟨R, 1, none⟩) hR9.out (.slice none 0 0)
                        obtain ⟨W, HW⟩ : ∃ u, Hid ((w5.setCell ⟨R, 0, none⟩ (.int .i64 0)).setCell ⟨R, 1, none⟩ (.slice none 0 0) = u) := ⟨_, rfl⟩
                        rw [HW.out] at hbW bW
                        clear hRB hRf hRb
                        go_wp2
                        rw [HW.out]
                        exact bodyPost_ret (v := .tuple #[.agg #[.int .i64 0, .slice none 0 0], .int .i64 (k : Int), .int .i64 1]) (results_net2 rfl rfl rfl rfl hbW.2.1 hbW.2.2) rfl ⟨parse_no Hbad.out, bW⟩
                · have Hbad : Hid (BadT s (k : Int)) := by rw [Hk0.out]; exact first_bad2 Hno.out HS0.out (n := 0) (ofirst_no1 hp 0)
                  go_upto_region 12 with fail
                  rw [H1.out, HB.out]
                  go_upto_region 13 with (go_at_call 24; refine hSk.mono ?_; rintro en w2 ⟨hSk2, hO2⟩; obtain ⟨rfl, hR2⟩ := skip_no hSk2 hp)
                  have hT2 := hT1.on hO2.below
                  clear hSk hSk2 hp
                  have hNm := num_any hR2 hT2 (Nat.le_refl _) hal
                  go_upto_region 14 with (go_at_call 25; refine hNm.mono ?_; rintro en w4 ⟨⟨pp, ok, d, r1, rfl, hdr, hdd, hr1, hnd, hR4⟩, hO4⟩)
                  have b4 : Below B wr w4 := bA'.trans (hO2.below.trans hO4.below)
                  have hN4 := hN.to (by rw [HB.out]; exact b4)
                  have bX4 : Below X w0 (w4.setCell ⟨X, 0, none⟩ (.int .i64 pp)) := (hN4.places pp).below
                  have y0 := hN4.c0
                  have y1 := hN4.f0
                  obtain ⟨w5, H5⟩ : ∃ u, Hid (w4.setCell ⟨X, 0, none⟩ (.int .i64 pp) = u) := ⟨_, rfl⟩
                  rw [H5.out] at bX4
                  clear hNm hdr hdd hr1 hnd hT2 hT1 hR2 hRd1 hO2 hO4 bA' hN4 hN hSl hIx hR4
                  go_upto_region 20 with fail
                  rw [H5.out]
                  clear y0 y1
                  obtain ⟨hRB, hRf, hRb⟩ := HRbox.out w5 bX4
                  obtain ⟨_, x0, x1⟩ := id hRB
                  have g0 := hRf 0
                  have g1' := hRf 1
                  have hbW := box2_set hRB (.int .i64 0) (.slice none 0 0)
                  have bW := (hRb.setCell (p := ⟨R, 0, none⟩) hR9.out (.int .i64 0)).setCell (p := ⟨R, 1, none⟩) hR9.out (.slice none 0 0)
                  obtain ⟨W, HW⟩ : ∃ u, Hid ((w5.setCell ⟨R, 0, none⟩ (.int .i64 0)).setCell ⟨R, 1, none⟩ (.slice none 0 0) = u) := ⟨_, rfl⟩
                  rw [HW.out] at hbW bW
                  clear hRB hRf hRb
                  go_wp2
                  rw [HW.out]
                  exact bodyPost_ret (v := .tuple #[.agg #[.int .i64 0, .slice none 0 0], .int .i64 (k : Int), .int .i64 1]) (results_net2 rfl rfl rfl rfl hbW.2.1 hbW.2.2) rfl ⟨parse_no Hbad.out, bW⟩
              · have Hkt : Hid (k = ts.length + 1) := hkt
                have hk1 : 1 ≤ k := by omega
                have hP := hL.le
                have h24 := hL.many
                have hRne : s.drop f ≠ [] := by rw [HLn.out]; simp
                have nk : ((k : Int) == 0) = false := by rw [beq_eq_false_iff_ne]; omega
                have ht25 : ts.length + 1 = k := hkt.symm
                clear hkt
                by_cases hk24 : k ≤ 24
                · have n4 : decide ((k : Int) ≤ 24) = true := by rw [decide_eq_true_eq]; omega
                  have hSl := fun w => str_cut (s := s) (a := f) (b := e) hfe (by rw [Hn.out]; omega) w
                  rw [HAa.out] at hSl
                  have HL : Hid (Lines s P ts (s.drop f)) := hL
                  have HRne : Hid (s.drop f ≠ []) := hRne
                  have hTr := hN.trans (by have := hN.len; omega)
                  obtain ⟨oa, ol, oc, rfl, hol, _⟩ := id hTr
                  have htv : tv.length ≤ 24 := by rw [← hN.len]; exact h24
                  have bA := below_new wr (.cells #[.int .i64 0, .slice none 0 0, .slice none 0 0] 43)
                  have hy := box3_new wr (.int .i64 0) (.slice none 0 0) (.slice none 0 0) 43
                  have hyf : ∀ j, (wr.alloc (.cells #[.int .i64 0, .slice none 0 0, .slice none 0 0] 43)).frozen? ⟨wr.heap.size, j, none⟩ = false := fun j => World.frozen?_alloc_at _ _ _ _ rfl
                  obtain ⟨w5, H5⟩ : ∃ u, Hid (wr.alloc (.cells #[.int .i64 0, .slice none 0 0, .slice none 0 0] 43) = u) := ⟨_, rfl⟩
                  obtain ⟨Y, HY⟩ : ∃ z, Hid (wr.heap.size = z) := ⟨_, rfl⟩
                  rw [H5.out, HY.out] at hy hyf
                  rw [H5.out] at bA
                  have hO5 := hN.to bA
                  have y0 := hO5.c0
                  have hXY0 : X < Y := by have h1 := hN.size; have h2 := HY.out; omega
                  have hbw := (HRbox.out w5 hO5.below).2.2
                  have hT5 : Tabs15 w5.heap.size w5 := (hT.on hbw).up hbw.size
                  have HN : Hid (NetOut X (P : Int) w0 wr ts (.slice oa ol oc) tv) := hN
                  have HbA : Hid (Below wr.heap.size wr w5) := bA
                  clear hol hTr hL hRne hN bA n3 hbw
                  go_upto_region 18 with fail
                  rw [H5.out, HY.out]
                  refine wp_region_held_drew (S := fun w' => w'.cell? ⟨X, 0, none⟩ = some (.int .i64 (P : Int))) (by kernel_rfl) y0 (fun hH => ?_)
                  refine wpAnyH_take (i := 0) (v := .string (bs s)) rfl (by kernel_rfl) (by kernel_rfl) (by kernel_rfl) (fun _ _ _ h => h) (.inl ⟨by rfl, fun _ _ => rfl⟩) hH ?_
                  simp only [List.getElem_toArray, List.getElem_cons_succ, List.getElem_cons_zero, Act.put, List.setIfInBounds_toArray, List.set_cons_zero, List.set_cons_succ]
                  refine wpAnyH_take (i := 1) (v := .int .i64 (f : Int)) rfl (by kernel_rfl) (by kernel_rfl) (by kernel_rfl) (fun _ _ _ h => h) (.inl ⟨by rfl, fun _ _ => rfl⟩) hH ?_
                  simp only [List.getElem_toArray, List.getElem_cons_succ, List.getElem_cons_zero, Act.put, List.setIfInBounds_toArray, List.set_cons_zero, List.set_cons_succ]
                  refine wpAnyH_take (i := 2) (v := .int .i64 (e : Int)) rfl (by kernel_rfl) (by kernel_rfl) (by kernel_rfl) (fun _ _ _ h => h) (.inl ⟨by rfl, fun _ _ => rfl⟩) hH ?_
                  simp only [List.getElem_toArray, List.getElem_cons_succ, List.getElem_cons_zero, Act.put, List.setIfInBounds_toArray, List.set_cons_zero, List.set_cons_succ]
                  refine wpAnyH_take (i := 3) (v := .string (bs a)) rfl (by kernel_rfl) (by kernel_rfl) (by kernel_rfl) (fun _ _ _ h => h) (.inl ⟨by rfl, fun w' hS' => by first | (go_simp; done) | (go_simp; rfl) | (go_simp; intro h; omega) | (go_simp; omega)⟩) hH ?_
                  simp only [List.getElem_toArray, List.getElem_cons_succ, List.getElem_cons_zero, Act.put, List.setIfInBounds_toArray, List.set_cons_zero, List.set_cons_succ]
                  refine wpAnyH_take (i := 4) (v := .pointer (some ⟨X, 0, none⟩)) rfl (by kernel_rfl) (by kernel_rfl) (by kernel_rfl) (fun _ _ _ h => h) (.inl ⟨by rfl, fun w' hS' => by first | (go_simp; done) | (go_simp; rfl) | (go_simp; intro h; omega) | (go_simp; omega)⟩) hH ?_
                  simp only [List.getElem_toArray, List.getElem_cons_succ, List.getElem_cons_zero, Act.put, List.setIfInBounds_toArray, List.set_cons_zero, List.set_cons_succ]
                  refine wpAnyH_take (i := 5) (v := .int .i64 (P : Int)) rfl (by kernel_rfl) (by kernel_rfl) (by kernel_rfl) (fun _ _ _ h => h) (.inl ⟨by rfl, fun w' hS' => by go_simp⟩) hH ?_
                  simp only [List.getElem_toArray, List.getElem_cons_succ, List.getElem_cons_zero, Act.put, List.setIfInBounds_toArray, List.set_cons_zero, List.set_cons_succ]
                  have bd := (Below.refl w5.heap.size w5).drew
                  have hOt := otran_any a P w5.drew (hT5.on bd) hal hP
                  refine wpAnyH_ready (rs := [6]) (by kernel_rfl) (by simp) ?_
                  refine AllReadyH.cons rfl (fun K hK => ?_) AllReadyH.nil
                  simp only [List.getElem_toArray, List.getElem_cons_succ, List.getElem_cons_zero]
                  rw [if_pos (by rfl)]
                  go_wp2_with (go_at_call 26; refine hOt.mono ?_; rintro en w6 ⟨⟨lab, a1, m1, c1, a2, m2, c2, ok, rfl, hTr⟩, b6⟩)
                  have b56 := below_then bd b6
                  have hO6 := hO5.to b56
                  have hy6 := hy.below b56
                  have y6 := hO6.c0
                  obtain ⟨_, t0, t1, t2⟩ := id hy6
                  have tf0 : w6.frozen? ⟨Y, 0, none⟩ = false := by rw [b56.frozen (p := ⟨Y, 0, none⟩) hy.1]; exact hyf 0
                  have tf1 : w6.frozen? ⟨Y, 1, none⟩ = false := by rw [b56.frozen (p := ⟨Y, 1, none⟩) hy.1]; exact hyf 1
                  have tf2 : w6.frozen? ⟨Y, 2, none⟩ = false := by rw [b56.frozen (p := ⟨Y, 2, none⟩) hy.1]; exact hyf 2
                  refine hK.out _ _ y6 (fun hH => ?_)
                  clear hK hOt
                  refine wpAnyH_take (i := 7) (v := .tuple #[.agg #[.int .i64 lab, .slice a1 m1 c1, .slice a2 m2 c2], .bool ok]) rfl (by kernel_rfl) (by kernel_rfl) (by kernel_rfl) (fun _ _ _ h => h) (.inl ⟨by rfl, fun _ _ => rfl⟩) hH ?_
                  simp only [List.getElem_toArray, List.getElem_cons_succ, List.getElem_cons_zero, Act.put, List.setIfInBounds_toArray, List.set_cons_zero, List.set_cons_succ]
                  refine wpAnyH_take (i := 8) (v := .agg #[.int .i64 lab, .slice a1 m1 c1, .slice a2 m2 c2]) rfl (by kernel_rfl) (by kernel_rfl) (by kernel_rfl) (fun _ _ _ h => h) (.inl ⟨by rfl, fun w' hS' => by first | (go_simp; done) | (go_simp; rfl) | (go_simp; intro h; omega) | (go_simp; omega)⟩) hH ?_
                  simp only [List.getElem_toArray, List.getElem_cons_succ, List.getElem_cons_zero, Act.put, List.setIfInBounds_toArray, List.set_cons_zero, List.set_cons_succ]
                  refine wpAnyH_take (i := 9) (v := .bool ok) rfl (by kernel_rfl) (by kernel_rfl) (by kernel_rfl) (fun _ _ _ h => h) (.inl ⟨by rfl, fun w' hS' => by first | (go_simp; done) | (go_simp; rfl) | (go_simp; intro h; omega) | (go_simp; omega)⟩) hH ?_
                  simp only [List.getElem_toArray, List.getElem_cons_succ, List.getElem_cons_zero, Act.put, List.setIfInBounds_toArray, List.set_cons_zero, List.set_cons_succ]
                  have hbT := box3_set hy6 (.int .i64 lab) (.slice a1 m1 c1) (.slice a2 m2 c2)
                  have bW67 : Below wr.heap.size wr (((w6.setCell ⟨Y, 0, none⟩ (.int .i64 lab)).setCell ⟨Y, 1, none⟩ (.slice a1 m1 c1)).setCell ⟨Y, 2, none⟩ (.slice a2 m2 c2)) := (((below_then HbA.out b56).setCell (p := ⟨Y, 0, none⟩) (Nat.le_of_eq HY.out) _).setCell (p := ⟨Y, 1, none⟩) (Nat.le_of_eq HY.out) _).setCell (p := ⟨Y, 2, none⟩) (Nat.le_of_eq HY.out) _
                  have hOT := HN.out.to bW67
                  have HTO : Hid ((ok = true ∧ ∃ t, t.label = lab ∧ LineIs P a t true ∧ On (fun q => w5.heap.size ≤ q) (((w6.setCell ⟨Y, 0, none⟩ (.int .i64 lab)).setCell ⟨Y, 1, none⟩ (.slice a1 m1 c1)).setCell ⟨Y, 2, none⟩ (.slice a2 m2 c2)) (fun w2 => Ints w2 (.slice a1 m1 c1) t.pre) ∧ On (fun q => w5.heap.size ≤ q) (((w6.setCell ⟨Y, 0, none⟩ (.int .i64 lab)).setCell ⟨Y, 1, none⟩ (.slice a1 m1 c1)).setCell ⟨Y, 2, none⟩ (.slice a2 m2 c2)) (fun w2 => Ints w2 (.slice a2 m2 c2) t.post)) ∨ (ok = false ∧ LineIs P a noTran false)) := by
                    have hYs : Y < w5.heap.size := hy.1
                    rcases hTr with ⟨q1, t, q2, q3, q4, q5⟩ | q
                    · refine .inl ⟨q1, t, q2, q3, ?_, ?_⟩
                      · exact ((q4.set (a := ⟨Y, 0, none⟩) (by show ¬ (w5.heap.size ≤ Y); omega) _).set (a := ⟨Y, 1, none⟩) (by show ¬ (w5.heap.size ≤ Y); omega) _).set (a := ⟨Y, 2, none⟩) (by show ¬ (w5.heap.size ≤ Y); omega) _
                      · exact ((q5.set (a := ⟨Y, 0, none⟩) (by show ¬ (w5.heap.size ≤ Y); omega) _).set (a := ⟨Y, 1, none⟩) (by show ¬ (w5.heap.size ≤ Y); omega) _).set (a := ⟨Y, 2, none⟩) (by show ¬ (w5.heap.size ≤ Y); omega) _
                    · exact .inr q
                  have y7 : (((w6.setCell ⟨Y, 0, none⟩ (.int .i64 lab)).setCell ⟨Y, 1, none⟩ (.slice a1 m1 c1)).setCell ⟨Y, 2, none⟩ (.slice a2 m2 c2)).cell? ⟨X, 0, none⟩ = some (.int .i64 (P : Int)) := hOT.c0
                  obtain ⟨w7, H7⟩ : ∃ u, Hid (((w6.setCell ⟨Y, 0, none⟩ (.int .i64 lab)).setCell ⟨Y, 1, none⟩ (.slice a1 m1 c1)).setCell ⟨Y, 2, none⟩ (.slice a2 m2 c2) = u) := ⟨_, rfl⟩
                  rw [H7.out] at hbT bW67 hOT HTO y7
                  have hsW67 := bW67.size
                  refine wpAnyH_ready (rs := [10]) (by kernel_rfl) (by simp) ?_
                  refine AllReadyH.cons rfl (fun K hK => ?_) AllReadyH.nil
                  simp only [List.getElem_toArray, List.getElem_cons_succ, List.getElem_cons_zero]
                  rw [if_pos (by rfl)]
                  go_wp2_with fail
                  rw [H7.out]
                  refine hK.out _ _ y7 (fun hH => ?_)
                  clear hK
                  refine wpAnyH_take (i := 11) (v := .bool ok) rfl (by kernel_rfl) (by kernel_rfl) (by kernel_rfl) (fun _ _ _ h => h) (.inl ⟨by rfl, fun _ _ => rfl⟩) hH ?_
                  simp only [List.getElem_toArray, List.getElem_cons_succ, List.getElem_cons_zero, Act.put, List.setIfInBounds_toArray, List.set_cons_zero, List.set_cons_succ]
                  refine wpAnyH_done (by kernel_rfl) ?_ _
                  clear hH
                  clear y0 y6 y7 t0 t1 t2 tf0 tf1 tf2 hSl hy hyf hy6 hO5 hO6
                  have bdr := Below.refl w7.heap.size w7
                  have hO8 := hOT.to bdr
                  obtain ⟨_, t0, t1, t2⟩ := id (hbT.below bdr)
                  have hN8 := bW67.trans (bdr.mono hsW67)
                  have HTO8 : Hid ((ok = true ∧ ∃ t, t.label = lab ∧ LineIs P a t true ∧ On (fun q => wr.heap.size ≤ q) w7 (fun w2 => Ints w2 (.slice a1 m1 c1) t.pre) ∧ On (fun q => wr.heap.size ≤ q) w7 (fun w2 => Ints w2 (.slice a2 m2 c2) t.post)) ∨ (ok = false ∧ LineIs P a noTran false)) := by
                    have hs5 : wr.heap.size ≤ w5.heap.size := HbA.out.size
                    rcases HTO.out with ⟨q1, t, q2, q3, q4, q5⟩ | q
                    · exact .inl ⟨q1, t, q2, q3, (q4.below bdr).weaken fun k _ hk => Nat.le_trans hs5 hk, (q5.below bdr).weaken fun k _ hk => Nat.le_trans hs5 hk⟩
                    · exact .inr q
                  obtain ⟨w8, H8⟩ : ∃ u, Hid (w7 = u) := ⟨_, rfl⟩
                  rw [H8.out] at hO8 t0 t1 t2 hN8 HTO8
                  rw [H8.out]
                  clear hbT hOT HTO bdr
                  have y1 := hO8.c1
                  have y2 := hO8.f1
                  have hown := hO8.own
                  have hszX : Hid (X + 1 ≤ w8.heap.size) := hO8.size
                  have HO8 : Hid (NetOut X (P : Int) w0 w8 ts (.slice oa ol oc) tv) := hO8
                  have HStep : Hid (∀ v' w9, w9.ownsRow (X + 1) 43 3 v' (tv ++ [(lab, Value.slice a1 m1 c1, Value.slice a2 m2 c2)]).length (tvCells (tv ++ [(lab, Value.slice a1 m1 c1, Value.slice a2 m2 c2)])) →
                      (w8.alloc (.cells #[.int .i64 lab, .slice a1 m1 c1, .slice a2 m2 c2] 43)).grownBy w9 (Value.slice oa ol oc).ownBlock →
                      (v'.ownBlock = (Value.slice oa ol oc).ownBlock ∨ v'.ownBlock = some (w8.alloc (.cells #[.int .i64 lab, .slice a1 m1 c1, .slice a2 m2 c2] 43)).heap.size) →
                      ∀ t, t.label = lab → On (fun q => wr.heap.size ≤ q) w8 (fun w2 => Ints w2 (.slice a1 m1 c1) t.pre) → On (fun q => wr.heap.size ≤ q) w8 (fun w2 => Ints w2 (.slice a2 m2 c2) t.post) →
                      NetOut X (P : Int) w0 (w9.setCell ⟨X, 1, none⟩ v') (ts ++ [t]) v' (tv ++ [(lab, Value.slice a1 m1 c1, Value.slice a2 m2 c2)])) := fun v' w9 g1 g2 g3 t ht p1 p2 =>
                    HN.out.step (vs := [t]) (xs := [(lab, Value.slice a1 m1 c1, Value.slice a2 m2 c2)]) rfl (below_then hN8 (below_new w8 _)) (fun j hj => by
                      obtain rfl : j = 0 := by simpa using hj
                      exact ⟨ht.symm, p1.below (below_new w8 _), p2.below (below_new w8 _)⟩) g1 g2 g3
                  go_upto_region 20 with (at_builtin; refine wp_append_tran_at rfl _ _ rfl (X + 1) w8 _ tv lab a1 a2 m1 m2 c1 c2 hown rfl rfl (by omega) hszX.out ?_; intro v' w9 hO9 hg9 hat9; obtain ⟨y3, y4⟩ := HO8.out.afterA _ hg9; have hSt9 := HStep.out v' w9 hO9 hg9 hat9; have hB9 := HO8.out.afterB (v' := v') _ hg9; obtain ⟨oa2, ol2, oc2, rfl⟩ := ownsRow_slice hO9; obtain ⟨w10, H10⟩ : ∃ u, Hid (w9.setCell ⟨X, 1, none⟩ (.slice oa2 ol2 oc2) = u) := ⟨_, rfl⟩; rw [H10.out] at hSt9 hB9)
                  rw [H10.out]
                  clear t0 t1 t2 y1 y2 y3 y4 hown hO8
                  rcases HTO8.out with ⟨rfl, t, ht, hLi, hp1, hp2⟩ | ⟨rfl, hLi⟩
                  · have hL2 := HL.out.good HLn.out hLi (by omega)
                    have hN2 := hSt9 t ht hp1 hp2
                    have we : IntKind.i64.wrap ((e : Int) + 1) = ((e + 1 : Nat) : Int) := by rw [show (e : Int) + 1 = ((e + 1 : Nat) : Int) by omega]; exact Go.IntWalk.i64_in _ ⟨by omega, by omega⟩
                    have wk : IntKind.i64.wrap ((k : Int) + 1) = ((k + 1 : Nat) : Int) := by rw [show (k : Int) + 1 = ((k + 1 : Nat) : Int) by omega]; exact Go.IntWalk.i64_in _ ⟨by omega, by omega⟩
                    have hNew : OSt s X w0 w10 (k + 1) (e + 1) := .inr ⟨P, ts ++ [t], _, _, by rw [List.length_append, List.length_singleton, Hkt.out], by rw [Hn.out]; omega, by omega, hN2, hL2⟩
                    clear hSt9 hB9 hLi hp1 hp2 hL2 hN2 ht
                    go_wp2
                    go_roundg (n + 2 - (e + 1))
                    case measure => omega
                    case rel => exact ⟨k + 1, e + 1, by go_num, by go_num, rfl, hNew⟩
                  · have Hbad : Hid (BadT s (k : Int)) := by have := HL.out.bad2 HRne.out Hno.out HLn.out hLi; rw [Hkt.out]; exact this
                    have bz : Below X w0 w10 := HO8.out.below.trans hB9
                    clear hSt9 hB9 hLi
                    obtain ⟨hRB, hRf, hRb⟩ := HRbox.out w10 bz
                    obtain ⟨_, x0, x1⟩ := id hRB
                    have g0 := hRf 0
                    have g1' := hRf 1
                    have hbW := box2_set hRB (.int .i64 0) (.slice none 0 0)
                    have bW := (hRb.setCell (p := ⟨R, 0, none⟩) hR9.out (.int .i64 0)).setCell (p := ⟨R, 1, none⟩) hR9.out (.slice none 0 0)
                    obtain ⟨W, HW⟩ : ∃ u, Hid ((w10.setCell ⟨R, 0, none⟩ (.int .i64 0)).setCell ⟨R, 1, none⟩ (.slice none 0 0) = u) := ⟨_, rfl⟩
                    rw [HW.out] at hbW bW
                    clear hRB hRf hRb
                    go_wp2
                    rw [HW.out]
                    exact bodyPost_ret (v := .tuple #[.agg #[.int .i64 0, .slice none 0 0], .int .i64 (k : Int), .int .i64 1]) (results_net2 rfl rfl rfl rfl hbW.2.1 hbW.2.2) rfl ⟨parse_no Hbad.out, bW⟩
                · have n4 : decide ((k : Int) ≤ 24) = false := by rw [decide_eq_false_iff_not]; omega
                  have Hbad : Hid (BadT s (k : Int)) := by have := hL.bad3 hRne (by omega); rw [Hkt.out]; exact this
                  clear n3 ht25
                  obtain ⟨hRB, hRf, hRb⟩ := HRbox.out wr HbXr.out
                  obtain ⟨_, x0, x1⟩ := id hRB
                  have g0 := hRf 0
                  have g1' := hRf 1
                  have hbW := box2_set hRB (.int .i64 0) (.slice none 0 0)
                  have bW := (hRb.setCell (p := ⟨R, 0, none⟩) hR9.out (.int .i64 0)).setCell (p := ⟨R, 1, none⟩) hR9.out (.slice none 0 0)
                  obtain ⟨W, HW⟩ : ∃ u, Hid ((wr.setCell ⟨R, 0, none⟩ (.int .i64 0)).setCell ⟨R, 1, none⟩ (.slice none 0 0) = u) := ⟨_, rfl⟩
                  rw [HW.out] at hbW bW
                  clear hRB hRf hRb
                  go_wp2
                  rw [HW.out]
                  exact bodyPost_ret (v := .tuple #[.agg #[.int .i64 0, .slice none 0 0], .int .i64 (k : Int), .int .i64 1]) (results_net2 rfl rfl rfl rfl hbW.2.1 hbW.2.2) rfl ⟨parse_no Hbad.out, bW⟩
            · have n2 : ((c : Int) != 10) = true := by rw [bne_iff_ne]; omega
              have Hno2 : Hid ((10 : UInt8) ∉ (s.drop f).take (e + 1 - f)) := take_next hfe Hx.out (by intro q; apply hc; rw [← Hc.out, q]; rfl) Hno.out
              go_wp2
              go_roundg (g2 - 1)
              case measure => omega
              case rel => exact ⟨e + 1, by omega, by omega, by go_num, rfl, Hno2.out⟩
          · have n1 : decide ((e : Int) < (n : Int)) = false := by rw [decide_eq_false_iff_not]; omega
            have Hno3 : Hid ((10 : UInt8) ∉ s.drop f) := by
              have := Hno.out
              rw [List.take_of_length_le (by rw [List.length_drop, Hn.out]; omega)] at this
              exact this
            have Hbad : Hid (BadT s (k : Int)) := by
              rcases HSt.out with ⟨hk0, hf0, _⟩ | ⟨P, ts, ov, tv, hkt, hf1, hf2, hN, hL⟩
              · rw [hk0]; exact first_bad1 (by have := Hno3.out; rw [hf0] at this; exact this)
              · rw [hkt]; exact hL.bad1 (by intro q; have := congrArg List.length q; rw [List.length_drop, Hn.out, List.length_nil] at this; omega) Hno3.out
            obtain ⟨hRB, hRf, hRb⟩ := HRbox.out wr HbXr.out
            obtain ⟨_, x0, x1⟩ := id hRB
            have g0 := hRf 0
            have g1' := hRf 1
            have hbW := box2_set hRB (.int .i64 0) (.slice none 0 0)
            have bW := (hRb.setCell (p := ⟨R, 0, none⟩) hR9.out (.int .i64 0)).setCell (p := ⟨R, 1, none⟩) hR9.out (.slice none 0 0)
            obtain ⟨W, HW⟩ : ∃ u, Hid ((wr.setCell ⟨R, 0, none⟩ (.int .i64 0)).setCell ⟨R, 1, none⟩ (.slice none 0 0) = u) := ⟨_, rfl⟩
            rw [HW.out] at hbW bW
            clear hRB hRf hRb
            go_wp2
            rw [HW.out]
            exact bodyPost_ret (v := .tuple #[.agg #[.int .i64 0, .slice none 0 0], .int .i64 (k : Int), .int .i64 1]) (results_net2 rfl rfl rfl rfl hbW.2.1 hbW.2.2) rfl ⟨parse_no Hbad.out, bW⟩
      · have n1 : decide ((f : Int) < (n : Int)) = false := by rw [decide_eq_false_iff_not]; omega
        have hk0 : k = 0 := by rcases hgo with q | q; exact absurd q hf; exact q
        have n2 : ((k : Int) == 0) = true := by rw [hk0]; rfl
        clear hgo
        go_upto_region 7 with fail
        clear n1 n2
        have Hk0 : Hid (k = 0) := hk0
        clear hk0
        go_loopg [8] (n - f) (fun gk r8 wq => ∃ e : Nat, f ≤ e ∧ e + gk = n ∧ r8 = .int .i64 (e : Int) ∧ wq = wr ∧ (10 : UInt8) ∉ (s.drop f).take (e - f))
        case atStart => exact ⟨f, by omega, by omega, rfl, rfl, by simp⟩
        case round =>
          obtain ⟨e, hfe, hge, rfl, rfl, hno⟩ := hrel
          obtain ⟨g2, rfl⟩ : ∃ z, z = gk := ⟨_, rfl⟩
          have Hno : Hid ((10 : UInt8) ∉ (s.drop f).take (e - f)) := hno
          clear hno
          by_cases he : e < n
          · exfalso
            omega
          · have n1 : decide ((e : Int) < (n : Int)) = false := by rw [decide_eq_false_iff_not]; omega
            have Hno3 : Hid ((10 : UInt8) ∉ s.drop f) := by
              have := Hno.out
              rw [List.take_of_length_le (by rw [List.length_drop, Hn.out]; omega)] at this
              exact this
            have Hbad : Hid (BadT s (k : Int)) := by
              rcases HSt.out with ⟨hk0, hf0, _⟩ | ⟨P, ts, ov, tv, hkt, hf1, hf2, hN, hL⟩
              · rw [hk0]; exact first_bad1 (by have := Hno3.out; rw [hf0] at this; exact this)
              · exfalso; have := Hk0.out; omega
            obtain ⟨hRB, hRf, hRb⟩ := HRbox.out wr HbXr.out
            obtain ⟨_, x0, x1⟩ := id hRB
            have g0 := hRf 0
            have g1' := hRf 1
            have hbW := box2_set hRB (.int .i64 0) (.slice none 0 0)
            have bW := (hRb.setCell (p := ⟨R, 0, none⟩) hR9.out (.int .i64 0)).setCell (p := ⟨R, 1, none⟩) hR9.out (.slice none 0 0)
            obtain ⟨W, HW⟩ : ∃ u, Hid ((wr.setCell ⟨R, 0, none⟩ (.int .i64 0)).setCell ⟨R, 1, none⟩ (.slice none 0 0) = u) := ⟨_, rfl⟩
            rw [HW.out] at hbW bW
            clear hRB hRf hRb
            go_wp2
            rw [HW.out]
            exact bodyPost_ret (v := .tuple #[.agg #[.int .i64 0, .slice none 0 0], .int .i64 (k : Int), .int .i64 1]) (results_net2 rfl rfl rfl rfl hbW.2.1 hbW.2.2) rfl ⟨parse_no Hbad.out, bW⟩
    · -- all lines are read
      have hnf : ¬ f < n := fun q => hgo (.inl q)
      have hk0 : k ≠ 0 := fun q => hgo (.inr q)
      have n1 : decide ((f : Int) < (n : Int)) = false := by rw [decide_eq_false_iff_not]; omega
      obtain ⟨q0, rfl⟩ : ∃ q0, k = q0 + 1 := ⟨k - 1, by omega⟩
      have n2 : (((q0 : Int) + 1) == 0) = false := by rw [beq_eq_false_iff_ne]; omega
      rcases HSt.out with ⟨q, _⟩ | ⟨P, ts, ov, tv, _, _, _, hN, hL⟩
      · exact absurd q hk0
      · have hLe : s.drop f = [] := List.drop_eq_nil_of_le (by rw [Hn.out]; omega)
        rw [hLe] at hL
        obtain ⟨hN1, hN2⟩ := hL.net
        have h24 := hL.many
        have hTr := hN.trans (by have := hN.len; omega)
        obtain ⟨oa, ol, oc, rfl, _⟩ := id hTr
        have y0 := hN.c0
        have y1 := hN.c1
        obtain ⟨hRB, hRf, hRb⟩ := HRbox.out wr HbXr.out
        obtain ⟨_, x0, x1⟩ := id hRB
        have g0 := hRf 0
        have g1' := hRf 1
        have hbW := box2_set hRB (.int .i64 (P : Int)) (.slice oa ol oc)
        have bW := (hRb.setCell (p := ⟨R, 0, none⟩) hR9.out (.int .i64 (P : Int))).setCell (p := ⟨R, 1, none⟩) hR9.out (.slice oa ol oc)
        obtain ⟨W, HW⟩ : ∃ u, Hid ((wr.setCell ⟨R, 0, none⟩ (.int .i64 (P : Int))).setCell ⟨R, 1, none⟩ (.slice oa ol oc) = u) := ⟨_, rfl⟩
        have hF := hN.fill (by have := hN.len; omega) HRX.out (.int .i64 (P : Int)) (.slice oa ol oc) HW.out
        rw [HW.out] at hbW bW
        have HA : Hid (ParseOut s W (.returned (.tuple #[.agg #[.int .i64 (P : Int), .slice oa ol oc], .int .i64 0, .int .i64 0]))) := ⟨_, ⟨P, ts⟩, _, _, rfl, ⟨_, rfl, hF⟩, .inl ⟨rfl, rfl, hN1, hN2⟩⟩
        clear hgo hL hTr hN1 hN2 hF hN hLe hRB hRf hRb
        go_wp2
        rw [HW.out]
        exact bodyPost_ret (v := .tuple #[.agg #[.int .i64 (P : Int), .slice oa ol oc], .int .i64 0, .int .i64 0]) (results_net2 rfl rfl rfl rfl hbW.2.1 hbW.2.2) rfl ⟨HA.out, bW⟩

end Go.Proofs.YteeogdihaajicaaDoor
