import Derived.Test.YtakgppoeikcepaaGr10
import Derived.Test.YtakgppoeikcepaaGr00
import Derived.Maps.OwnSet
import Derived.DeepKeys4
import Derived.Laws.EntriesVeiled
import Derived.Test.YtakgppoeikcepaaGr06
import Derived.Test.YtakgppoeikcepaaGr03
/- Package shape as it landed: what is met on ways from a stop. -/
namespace Go.Proofs.Ytakgppoeikcepaa
open Go.RowKit Go.Maps Go.WideMaps
set_option linter.unusedVariables false
set_option maxRecDepth 4000

theorem try_laid : laidOutB Try.prog = true := by kernel_rfl
theorem stop_row : (126 : TypeId) < Try.prog.types.size := of_decide_eq_true (by kernel_rfl)
theorem stop_wide : (match Try.prog.underlying 126 with | some (.array _ _) | some (.struct _) => true | _ => false) = true := by kernel_rfl
theorem stop_law : Keyed Try.prog 126 := Keyed.of_law (deep_law_laid try_laid (m := 2) (by omega) stop_row (by kernel_rfl) stop_wide)

/-- A stop as a value, and as a key. -/
abbrev stopV (s : Stop) : Value := .agg #[.bool s.1, .int .i64 (s.2 : Int)]
def stopLit (s : Stop) : Lit := .string (keyBytes [.bool s.1, .int .i64 (s.2 : Int)])

theorem stop_cells : Try.prog.cellsOf 126 = 2 := by kernel_rfl
theorem stop_key : Try.prog.keyType 126 = true := by kernel_rfl

theorem keyOf_stop (s : Stop) (h : s.2 < 1000) : keyOf Try.prog 126 (stopV s) = some (stopLit s) := by
  have hw : (Lit.int .i64 (s.2 : Int)).wf = true := WalkArith.wf_i64 (by omega)
  obtain ⟨m, hm⟩ : ∃ m, Try.prog.types.size = m + 1 := ⟨Try.prog.types.size - 1, by have : 0 < Try.prog.types.size := of_decide_eq_true (by kernel_rfl); omega⟩
  have hu := Try.underlying126
  have hb := Try.underlying4
  have hi := Try.underlying3
  have c1 : Try.prog.cellsOf 4 = 1 := by kernel_rfl
  have c2 : Try.prog.cellsOf 3 = 1 := by kernel_rfl
  unfold keyOf
  simp only [hu]
  rw [if_pos (by simp [stop_key, Value.formed, hu, stop_cells]), hm]
  unfold Program.keyLits
  simp only [hu, Value.cells]
  rw [if_pos (by rw [stop_cells]; exact ⟨rfl, by simp⟩)]
  simp [c1, c2, Program.keyLits, hb, hi, hw, stopLit]

theorem stopLit_inj {s t : Stop} (hs : s.2 < 1000) (ht : t.2 < 1000) (e : stopLit s = stopLit t) : s = t := by
  have h1 := keyOf_stop s hs
  have h2 := keyOf_stop t ht
  rw [← e] at h2
  have h3 := stop_law.inj h1 h2
  injection h3 with h3
  simp at h3
  exact Prod.ext h3.1 (by omega)

/-- What the map of those that have been met says. -/
structure SaysS (vs : List Stop) (D : DataW Unit) : Prop where
  has : ∀ s : Stop, s.2 < 1000 → Maps.has D (stopLit s) = decide (s ∈ vs)
  size : Maps.size D = vs.length

theorem saysS_nil : SaysS [] (.map []) := ⟨fun s _ => by simp [Maps.has], rfl⟩

theorem SaysS.put {vs : List Stop} {D : DataW Unit} (h : SaysS vs D) (hD : IsMap D) (hT : Tidy D) {s : Stop} (hs : s.2 < 1000) (hn : s ∉ vs) : SaysS (vs ++ [s]) (D.put (stopLit s) (.agg [])) := by
  refine ⟨fun t ht => ?_, ?_⟩
  · by_cases e : t = s
    · subst e
      rw [has_put_same hD (show WideAt.IsKeyLit (stopLit t) from trivial)]
      simp
    · rw [has_put_other (fun q => e (stopLit_inj ht hs q)), h.has t ht]
      simp [e]
  · rw [size_put hT, h.has s hs, h.size]
    simp [hn]

/-- Where the variables of a search lie, and what has been met. -/
structure MetAt (bb bn bc mb : Nat) (n : NetL) (tv : Value) (w : World) (vs : List Stop) : Prop where
  been : Box1 w bb (.map (some mb))
  net : Box2 w bn (.int .i64 n.places) tv
  reads : On (fun k => k ≠ mb) w (fun w' => Net w' (.agg #[.int .i64 n.places, tv]) n)
  come : Box1 w bc (.func (.func 71) #[] #[.pointer (some ⟨bb, 0, none⟩), .pointer (some ⟨bn, 0, none⟩), .pointer (some ⟨bc, 0, none⟩)])
  ne : bb ≠ mb ∧ bn ≠ mb ∧ bc ≠ mb
  map : ∃ D, w.ownsMap Try.prog 126 unitElem mb vs.length D ∧ SaysS vs D

section
variable {bb bn bc mb : Nat} {n : NetL} {tv : Value} {w : World} {vs : List Stop}

theorem OnlyB.of_below (g : Nat) {w w' : World} (hg : g ≤ w.heap.size) (h : Below w.heap.size w w') : OnlyB g w w' := ⟨h.mono hg, h.size, fun k hk _ => h.block k hk⟩
theorem OnlyB.box1 {g : Nat} {w w' : World} (h : OnlyB g w w') {b : Nat} {x : Value} (hb : b ≠ g) (hx : Box1 w b x) : Box1 w' b x := ⟨Nat.lt_of_lt_of_le hx.1 h.size, h.cell hb hx.2⟩
theorem OnlyB.box2 {g : Nat} {w w' : World} (h : OnlyB g w w') {b : Nat} {x y : Value} (hb : b ≠ g) (hx : Box2 w b x y) : Box2 w' b x y := ⟨Nat.lt_of_lt_of_le hx.1 h.size, h.cell hb hx.2.1, h.cell hb hx.2.2⟩
theorem OnlyB.on {g : Nat} {w w' : World} {R : World → Prop} (h : OnlyB g w w') (hR : On (fun k => k ≠ g) w R) : On (fun k => k ≠ g) w' R := hR.to h.size fun k hk hD => h.block k hk hD

theorem MetAt.moved {w' : World} {vs' : List Stop} (h : MetAt bb bn bc mb n tv w vs) (hb : OnlyB mb w w') (hm : ∃ D, w'.ownsMap Try.prog 126 unitElem mb vs'.length D ∧ SaysS vs' D) : MetAt bb bn bc mb n tv w' vs' :=
  ⟨hb.box1 h.ne.1 h.been, hb.box2 h.ne.2.1 h.net, hb.on h.reads, hb.box1 h.ne.2.2 h.come, h.ne, hm⟩

theorem MetAt.lt (h : MetAt bb bn bc mb n tv w vs) : mb < w.heap.size := by
  obtain ⟨D, hm, _⟩ := h.map
  exact hm.lt

theorem MetAt.below {w' : World} (h : MetAt bb bn bc mb n tv w vs) (hb : Below w.heap.size w w') : MetAt bb bn bc mb n tv w' vs := by
  refine h.moved (OnlyB.of_below _ (Nat.le_of_lt h.lt) hb) ?_
  obtain ⟨D, ⟨es, cl, h1, h2⟩, h3⟩ := h.map
  exact ⟨D, ⟨es, cl, by rw [hb.block mb h.lt]; exact h1, h2⟩, h3⟩

theorem MetAt.only {w' : World} (h : MetAt bb bn bc mb n tv w vs) (hb : Below w.heap.size w w') : OnlyB mb w w' := OnlyB.of_below _ (Nat.le_of_lt h.lt) hb

/-- Whether it has been met. -/
theorem MetAt.look (h : MetAt bb bn bc mb n tv w vs) {s : Stop} (hs : s.2 < 1000) :
    (Instr.lookup 123 (.map (some mb)) (stopV s) true).run Try.prog w = .ok (.tuple #[.agg #[], .bool (decide (s ∈ vs))]) w := by
  obtain ⟨D, hm, hS⟩ := h.map
  have hz : (zeroValue 127).run Try.prog w = .ok (.agg #[]) w := by kernel_rfl
  obtain ⟨v, ps, h1, h2⟩ := hm.look_ok stop_law Try.underlying123 hz unitElem_mk (keyOf_stop s hs)
  obtain ⟨rfl, _⟩ := unitElem_inv h2
  rw [h1, hS.has s hs]

/-- It has been met now. -/
theorem MetAt.put (h : MetAt bb bn bc mb n tv w vs) {s : Stop} (hs : s.2 < 1000) (hn : s ∉ vs) (hl : vs.length < 1000) :
    ∃ w', (Instr.mapUpdate 123 (.map (some mb)) (stopV s) (.agg #[])).run Try.prog w = .ok () w' ∧ MetAt bb bn bc mb n tv w' (vs ++ [s]) ∧ OnlyB mb w w' := by
  obtain ⟨D, hm, hS⟩ := h.map
  obtain ⟨w', h1, h2, h3⟩ := hm.update stop_law Try.underlying123 (by unfold maxLen; omega) (keyOf_stop s hs) unitElem_mk
  have hb : OnlyB mb w w' := ⟨(Below.refl _ _).grown h3 (Nat.le_of_lt hm.lt) (fun k hk => by injection hk with hk; omega), h3.size, fun k hk hne => h3.block k hk (fun e => hne (by injection e))⟩
  exact ⟨w', h1, h.moved hb ⟨_, by simpa using h2, hS.put hm.isMap (hm.tidy stop_law) hs hn⟩, hb⟩

theorem MetAt.len (h : MetAt bb bn bc mb n tv w vs) (ty : TypeId) : (Builtin.len_ #[123] ty #[.map (some mb)]).run Try.prog w = .ok (.int .i64 (vs.length : Int)) w := by
  obtain ⟨D, hm, hS⟩ := h.map
  rw [hm.len Try.underlying123 ty, hS.size]

end

theorem fit_small {n : NetL} (hn : netOk n = true) {s : Stop} (hs : FitS n s) : s.2 < 1000 := by
  obtain ⟨h0, h1, h2⟩ := head_of hn
  obtain ⟨b, k⟩ := s
  cases b with
  | true => have : k < n.trans.length := hs; show k < 1000; omega
  | false => have : (k : Int) < n.places := hs; show k < 1000; omega

theorem count_small {n : NetL} (hn : netOk n = true) {vs : List Stop} (hd : vs.Nodup) (hf : ∀ x ∈ vs, FitS n x) : vs.length ≤ (allS n).length ∧ (allS n).length ≤ 40 := by
  obtain ⟨h0, h1, h2⟩ := head_of hn
  have := allS_length h0
  exact ⟨nodup_le hd fun x hx => mem_allS.2 (hf x hx), by omega⟩

/-- A stop that has been met already. -/
theorem come_seen (bb bn bc mb : Nat) (n : NetL) (hn : netOk n = true) (tv : Value) (s : Stop) (hs : FitS n s) (vs : List Stop) (w : World) (h : MetAt bb bn bc mb n tv w vs) (hin : s ∈ vs) :
    Calls Try.prog 71 #[stopV s, .pointer (some ⟨bb, 0, none⟩), .pointer (some ⟨bn, 0, none⟩), .pointer (some ⟨bc, 0, none⟩)] w fun e w' => e = .returned (.tuple #[]) ∧ Below w.heap.size w w' := by
  have hsm := fit_small hn hs
  have b1 := below_new w (.cells #[.bool s.1, .int .i64 (s.2 : Int)] 126)
  have hx := box2_new w (.bool s.1) (.int .i64 (s.2 : Int)) 126
  replace h := h.below b1
  obtain ⟨w1, Hw1⟩ : ∃ w1, Hid (w.alloc (.cells #[.bool s.1, .int .i64 (s.2 : Int)] 126) = w1) := ⟨_, rfl⟩
  rw [Hw1.out] at b1 hx h
  have hl := h.look hsm
  rw [decide_eq_true hin] at hl
  obtain ⟨c0, c1⟩ := h.been
  obtain ⟨x0, x1, x2⟩ := hx
  go_enter Try.func71, Try.ntmps71
  go_upto_region 1 with fail
  rw [Hw1.out]
  clear Hw1
  have R := below_then b1 (below_new w1 (.cells #[] 127))
  go_wp2
  (try simp only [Exit.inBlock, Exit.then])
  refine bodyPost_ret (results_none rfl _ _ _) rfl ?_
  exact ⟨rfl, R⟩

/-- Whatever stop: all behind it that had not been met is met then. -/
def StopComes (bb bn bc mb : Nat) (n : NetL) (tv : Value) (m : Nat) : Prop :=
  ∀ (s : Stop) (vs : List Stop) (w : World), FitS n s → vs.Nodup → (∀ x ∈ vs, FitS n x) → MetAt bb bn bc mb n tv w vs → (allS n).length ≤ m + vs.length →
    Calls Try.prog 71 #[stopV s, .pointer (some ⟨bb, 0, none⟩), .pointer (some ⟨bn, 0, none⟩), .pointer (some ⟨bc, 0, none⟩)] w fun e w' => e = .returned (.tuple #[]) ∧
      OnlyB mb w w' ∧ ∃ vs', MetAt bb bn bc mb n tv w' vs' ∧ vs'.Nodup ∧ (∀ x ∈ vs', FitS n x) ∧ Went n (OnWay n s) vs vs' ∧ s ∈ vs'

set_option maxHeartbeats 2000000 in
theorem come_new (bb bn bc mb : Nat) (n : NetL) (hn : netOk n = true) (tv : Value) (m : Nat) (IH : StopComes bb bn bc mb n tv m) (s : Stop) (hs : FitS n s) (vs : List Stop) (w : World) (hd : vs.Nodup) (hf : ∀ x ∈ vs, FitS n x) (h : MetAt bb bn bc mb n tv w vs) (hout : s ∉ vs) (hm : (allS n).length ≤ m + 1 + vs.length) :
    Calls Try.prog 71 #[stopV s, .pointer (some ⟨bb, 0, none⟩), .pointer (some ⟨bn, 0, none⟩), .pointer (some ⟨bc, 0, none⟩)] w fun e w' => e = .returned (.tuple #[]) ∧
      OnlyB mb w w' ∧ ∃ vs', MetAt bb bn bc mb n tv w' vs' ∧ vs'.Nodup ∧ (∀ x ∈ vs', FitS n x) ∧ Went n (OnWay n s) vs vs' ∧ s ∈ vs' := by
  have hsm := fit_small hn hs
  have hcs := count_small hn hd hf
  have b1 := below_new w (.cells #[.bool s.1, .int .i64 (s.2 : Int)] 126)
  have hx := box2_new w (.bool s.1) (.int .i64 (s.2 : Int)) 126
  have Hsz : Hid (mb < w.heap.size) := h.lt
  have HO1 : Hid _ := h.only b1
  replace h := h.below b1
  obtain ⟨w1, Hw1⟩ : ∃ w1, Hid (w.alloc (.cells #[.bool s.1, .int .i64 (s.2 : Int)] 126) = w1) := ⟨_, rfl⟩
  rw [Hw1.out] at b1 hx h HO1
  have hl := h.look hsm
  rw [decide_eq_false hout] at hl
  have b2 := below_new w1 (.cells #[] 127)
  have h2 := h.below b2
  have HO2 : Hid _ := HO1.out.trans (h.only b2)
  have hx2 := hx.below b2
  obtain ⟨w2, Hw2⟩ : ∃ w2, Hid (w1.alloc (.cells #[] 127) = w2) := ⟨_, rfl⟩
  rw [Hw2.out] at b2 h2 hx2 HO2
  obtain ⟨w3, hp, h3, hO3⟩ := h2.put hsm hout (by omega)
  obtain ⟨c0, c1⟩ := h.been
  obtain ⟨x0, x1, x2⟩ := hx
  go_enter Try.func71, Try.ntmps71
  go_upto_region 1 with fail
  rw [Hw1.out]
  clear Hw1
  go_upto_region 2 with fail
  rw [Hw2.out]
  clear Hw2 hl x0 x1 x2 c0 c1 h
  obtain ⟨c0, c1⟩ := h2.been
  obtain ⟨x0, x1, x2⟩ := hx2
  go_upto_region 4 with fail
  have hne : w.heap.size ≠ mb := by have := Hsz.out; omega
  have HO4 : Hid _ := HO2.out.trans hO3
  have hx3 := hO3.box2 hne ⟨x0, x1, x2⟩
  clear hp c0 c1 x0 x1 x2 h2 HO2 HO1
  obtain ⟨x0, x1, x2⟩ := id hx3
  obtain ⟨y0, y1, y2⟩ := h3.net
  have hN := h3.reads.now
  obtain ⟨at_, lt_, ct_, rfl⟩ : ∃ a l c, tv = .slice a l c := by obtain ⟨_, e, ⟨a, l, c, e2, _⟩⟩ := hN; injection e with e; simp only [Array.mk.injEq, List.cons.injEq, and_true, true_and] at e; exact ⟨a, l, c, by rw [e, e2]⟩
  have Hlt3 : Hid (mb < w3.heap.size) := h3.lt
  go_wp2_with fail
  refine (behind_any _ n hn s hs _ (by exact hN)).mono ?_
  rintro e w4 ⟨r, rfl, hr, b4⟩
  have h4 := h3.below b4
  have HO5 : Hid _ := HO4.out.trans (h3.only b4)
  replace hr := hr.weaken (D' := fun k => k ≠ mb) fun k _ hk => by have := Hlt3.out; omega
  obtain ⟨L, HL⟩ : ∃ L, Hid (behindL n s = L) := ⟨_, rfl⟩
  have Hle : Hid (L.length ≤ 24) := by rw [← HL.out]; exact behind_le hn hs
  have Hfl : Hid (∀ x ∈ L, FitS n x) := by rw [← HL.out]; exact fun x hx => behind_fits hn hs hx
  have Hwl : Hid (∀ x ∈ L, ∀ y, OnWay n x y → OnWay n s y) := by rw [← HL.out]; exact fun x hx y hy => OnWay.first hx hy
  have Hws : Hid (∀ us, Went n (OnWay n s) (vs ++ [s]) us → (∀ y ∈ L, y ∈ us) → Went n (OnWay n s) vs us) := by rw [← HL.out]; exact fun us g1 g2 => g1.stop g2
  rw [HL.out] at hr
  clear HL
  obtain ⟨ar, cr, rfl, _⟩ := hr.now
  obtain ⟨len, Hlen⟩ : ∃ len, Hid (L.length = len) := ⟨_, rfl⟩
  rw [Hlen.out] at hr ⊢
  have hd1 : (vs ++ [s]).Nodup := by rw [List.nodup_append]; exact ⟨hd, by simp, by rintro a ha b hb rfl; simp at hb; subst hb; exact hout ha⟩
  have hf1 : ∀ x ∈ vs ++ [s], FitS n x := by intro x hx; rcases List.mem_append.1 hx with k | k; exact hf x k; simp at k; subst k; exact hs
  have Hst : Hid (∃ us, MetAt bb bn bc mb n (.slice at_ lt_ ct_) w4 us ∧ us.Nodup ∧ (∀ x ∈ us, FitS n x) ∧ Went n (OnWay n s) (vs ++ [s]) us ∧ ∀ j (hj : j < L.length), j < 0 → L[j] ∈ us) := ⟨_, h4, hd1, hf1, Went.refl _ _ _, fun j _ hj => absurd hj (Nat.not_lt_zero _)⟩
  have Hd1 : Hid _ := hd1
  have Hm : Hid ((allS n).length ≤ m + (vs ++ [s]).length) := by show _ ≤ _; simp; omega
  clear h3 h4 x0 x1 x2 y0 y1 y2 hN hx3 HO4 hd hf hd1 hf1 hcs hm hO3 b1 b2
  go_wp2_with fail
  go_loopg [23] len (fun g i wr => ∃ k : Nat, k + g = len ∧ i = .int .i64 k ∧ Hid (OnlyB mb w wr) ∧ On (fun k => k ≠ mb) wr (fun w'' => Stops w'' (.slice ar len cr) L) ∧ Hid (∃ us, MetAt bb bn bc mb n (.slice at_ lt_ ct_) wr us ∧ us.Nodup ∧ (∀ x ∈ us, FitS n x) ∧ Went n (OnWay n s) (vs ++ [s]) us ∧ ∀ j (hj : j < L.length), j < k → L[j] ∈ us))
  case atStart => exact ⟨0, by omega, rfl, HO5, hr, Hst⟩
  case round =>
    clear Hst hr HO5
    obtain ⟨k, hkg, rfl, HO, hR, HU⟩ := hrel
    obtain ⟨us, hM, hD, hF, hW, hA⟩ := HU.out
    have HD : Hid _ := hD
    have HF : Hid _ := hF
    have HW : Hid _ := hW
    have HA : Hid _ := hA
    clear hD hF hW hA HU
    by_cases hk : k < len
    · have Hkl : Hid (k < L.length) := by show k < L.length; rw [Hlen.out]; exact hk
      obtain ⟨t, Ht⟩ : ∃ t, Hid (L[k]'Hkl.out = t) := ⟨_, rfl⟩
      obtain ⟨_, _, e, hrow⟩ := hR.now
      injection e with e1 e2 e3
      subst e1 e3
      clear e2
      obtain ⟨b, off, rfl, d0, d1⟩ := hrow k Hkl.out
      rw [Ht.out] at d0 d1
      clear hrow
      have b5 := below_new wr (.cells #[.bool t.1, .int .i64 (t.2 : Int)] 126)
      have hx := box2_new wr (.bool t.1) (.int .i64 (t.2 : Int)) 126
      obtain ⟨w5, Hw5⟩ : ∃ w5, Hid (wr.alloc (.cells #[.bool t.1, .int .i64 (t.2 : Int)] 126) = w5) := ⟨_, rfl⟩
      rw [Hw5.out] at b5 hx
      have hM5 := hM.below b5
      have HO6 : Hid _ := HO.out.trans (hM.only b5)
      have hR5 := (hM.only b5).on hR
      go_upto_region 7 with fail
      rw [Hw5.out]
      clear Hw5 d0 d1 hM hR
      obtain ⟨x0, x1, x2⟩ := hx
      obtain ⟨c0, c1⟩ := hM5.come
      have Hft : Hid (FitS n t) := by rw [← Ht.out]; exact Hfl.out _ (List.getElem_mem _)
      have Hlu : Hid ((allS n).length ≤ m + us.length) := by
        have g1 := nodup_le Hd1.out HW.out.sub
        have g2 := Hm.out
        show _ ≤ _
        omega
      go_wp2_with fail
      refine (IH t us _ Hft.out HD.out HF.out hM5 Hlu.out).mono ?_
      rintro e w6 ⟨rfl, hO6, us6, hM6, hD6, hF6, hW6, hin⟩
      have R1 : Hid _ := HO6.out.trans hO6
      have R2 := hO6.on hR5
      have R3 : Hid (∃ us, MetAt bb bn bc mb n (.slice at_ lt_ ct_) w6 us ∧ us.Nodup ∧ (∀ x ∈ us, FitS n x) ∧ Went n (OnWay n s) (vs ++ [s]) us ∧ ∀ j (hj : j < L.length), j < k + 1 → L[j] ∈ us) := by
        refine ⟨us6, hM6, hD6, hF6, HW.out.trans hW6 (Hwl.out t (by rw [← Ht.out]; exact List.getElem_mem _)), fun j hj hjk => ?_⟩
        by_cases e : j = k
        · subst e; rw [Ht.out]; exact hin
        · exact hW6.sub _ (HA.out j hj (by omega))
      clear hO6 hM6 hD6 hF6 hW6 hin c0 c1 x0 x1 x2 hM5 hR5
      have h24 : len ≤ 24 := by have := Hle.out; have := Hlen.out; omega
      go_wp2
      go_roundg (gk - 1)
      case measure => omega
      case rel => exact ⟨k + 1, by omega, by go_num, R1, R2, R3⟩
    · have R : ∃ vs', MetAt bb bn bc mb n (.slice at_ lt_ ct_) wr vs' ∧ vs'.Nodup ∧ (∀ x ∈ vs', FitS n x) ∧ Went n (OnWay n s) vs vs' ∧ s ∈ vs' := by
        refine ⟨us, hM, HD.out, HF.out, Hws.out us HW.out fun y hy => ?_, HW.out.sub s (by simp)⟩
        obtain ⟨j, hj, rfl⟩ := List.getElem_of_mem hy
        exact HA.out j hj (by have := Hlen.out; omega)
      have HR : Hid _ := R
      clear R hM hR
      go_wp2
      go_end0
      exact ⟨rfl, HO.out, HR.out⟩

theorem stopcome_any (bb bn bc mb : Nat) (n : NetL) (hn : netOk n = true) (tv : Value) (m : Nat) : StopComes bb bn bc mb n tv m := by
  have seen : ∀ (s : Stop) (vs : List Stop) (w : World), FitS n s → vs.Nodup → (∀ x ∈ vs, FitS n x) → MetAt bb bn bc mb n tv w vs → s ∈ vs →
      Calls Try.prog 71 #[stopV s, .pointer (some ⟨bb, 0, none⟩), .pointer (some ⟨bn, 0, none⟩), .pointer (some ⟨bc, 0, none⟩)] w fun e w' => e = .returned (.tuple #[]) ∧
        OnlyB mb w w' ∧ ∃ vs', MetAt bb bn bc mb n tv w' vs' ∧ vs'.Nodup ∧ (∀ x ∈ vs', FitS n x) ∧ Went n (OnWay n s) vs vs' ∧ s ∈ vs' := by
    intro s vs w hs hd hf h hin
    refine (come_seen bb bn bc mb n hn tv s hs vs w h hin).mono ?_
    rintro e w' ⟨rfl, hb⟩
    exact ⟨rfl, h.only hb, vs, h.below hb, hd, hf, Went.refl _ _ _, hin⟩
  induction m with
  | zero =>
    intro s vs w hs hd hf h hm
    refine seen s vs w hs hd hf h ?_
    exact nodup_full hd (fun x hx => mem_allS.2 (hf x hx)) (by have := nodup_le hd fun x hx => mem_allS.2 (hf x hx); omega) s (mem_allS.2 hs)
  | succ m ih =>
    intro s vs w hs hd hf h hm
    by_cases hin : s ∈ vs
    · exact seen s vs w hs hd hf h hin
    · exact come_new bb bn bc mb n hn tv m ih s hs vs w hd hf h hin hm

/-! What was there stays, as long as its blocks do. -/
theorem Ints.stays {w w' : World} {v : Value} {xs : List Int} (h : Ints w v xs) (hs : w.heap.size ≤ w'.heap.size) (hk : ∀ k, k < w.heap.size → w'.heap[k]? = w.heap[k]?) : Ints w' v xs := by
  obtain ⟨a, len, cap, e, hl, hm, hsh, hr⟩ := h
  refine ⟨a, len, cap, e, hl, hm, hsh, fun j hj => ?_⟩
  obtain ⟨b, off, ha, hlt, hc⟩ := hr j hj
  exact ⟨b, off, ha, Nat.lt_of_lt_of_le hlt hs, (World.cell?_of_block (a := ⟨b, off + j, none⟩) (hk b hlt)).trans hc⟩

theorem Net.stays {w w' : World} {v : Value} {n : NetL} (h : Net w v n) (hs : w.heap.size ≤ w'.heap.size) (hk : ∀ k, k < w.heap.size → w'.heap[k]? = w.heap[k]?) : Net w' v n := by
  obtain ⟨tv, e, a, len, cap, e2, hl, hm, hsh, hr⟩ := h
  refine ⟨tv, e, a, len, cap, e2, hl, hm, hsh, fun j hj => ?_⟩
  obtain ⟨b, off, c1, c2, ha, hlt, h0, h1, h2, h3, h4⟩ := hr j hj
  have q : ∀ i, w'.cell? ⟨b, i, none⟩ = w.cell? ⟨b, i, none⟩ := fun i => World.cell?_of_block (a := ⟨b, i, none⟩) (hk b hlt)
  exact ⟨b, off, c1, c2, ha, Nat.lt_of_lt_of_le hlt hs, (q _).trans h0, (q _).trans h1, (q _).trans h2, h3.stays hs hk, h4.stays hs hk⟩

theorem met_start (w : World) (n : NetL) (a : Option Addr) (len cap : Nat) (hv : Net w (.agg #[.int .i64 n.places, .slice a len cap]) n) (W : World)
    (hW : (((w.alloc (.cells #[.int .i64 n.places, .slice a len cap] 24)).alloc (.map #[] 0)).alloc (.cells #[.map (some (w.heap.size + 1))] 123)).alloc
      (.cells #[.func (.func 71) #[] #[.pointer (some ⟨w.heap.size + 1 + 1, 0, none⟩), .pointer (some ⟨w.heap.size, 0, none⟩), .pointer (some ⟨w.heap.size + 1 + 1 + 1, 0, none⟩)]] 124) = W) :
    MetAt (w.heap.size + 1 + 1) w.heap.size (w.heap.size + 1 + 1 + 1) (w.heap.size + 1) n (.slice a len cap) W [] ∧ Below w.heap.size w W := by
  have b1 := below_new w (.cells #[.int .i64 n.places, .slice a len cap] 24)
  have x1 := box2_new w (.int .i64 n.places) (.slice a len cap) 24
  have hv1 := hv.below b1
  obtain ⟨w1, h1⟩ : ∃ w1, w.alloc (.cells #[.int .i64 n.places, .slice a len cap] 24) = w1 := ⟨_, rfl⟩
  have s1 : w1.heap.size = w.heap.size + 1 := by rw [← h1]; simp
  rw [h1] at hW b1 x1 hv1
  have b2 := below_new w1 (.map #[] 0)
  have m2 := World.ownsMap_made (H := Unit) w1 Try.prog 126 unitElem
  obtain ⟨w2, h2⟩ : ∃ w2, w1.alloc (.map #[] 0) = w2 := ⟨_, rfl⟩
  have s2 : w2.heap.size = w.heap.size + 1 + 1 := by rw [← h2]; simp [s1]
  rw [h2] at hW b2 m2
  have b3 := below_new w2 (.cells #[.map (some (w.heap.size + 1))] 123)
  have x3 := box1_new w2 (.map (some (w.heap.size + 1))) 123
  have m3 := m2.alloc (.cells #[.map (some (w.heap.size + 1))] 123)
  obtain ⟨w3, h3⟩ : ∃ w3, w2.alloc (.cells #[.map (some (w.heap.size + 1))] 123) = w3 := ⟨_, rfl⟩
  have s3 : w3.heap.size = w.heap.size + 1 + 1 + 1 := by rw [← h3]; simp [s2]
  rw [h3] at hW b3 x3 m3
  have b4 := below_new w3 (.cells #[.func (.func 71) #[] #[.pointer (some ⟨w.heap.size + 1 + 1, 0, none⟩), .pointer (some ⟨w.heap.size, 0, none⟩), .pointer (some ⟨w.heap.size + 1 + 1 + 1, 0, none⟩)]] 124)
  have x4 := box1_new w3 (.func (.func 71) #[] #[.pointer (some ⟨w.heap.size + 1 + 1, 0, none⟩), .pointer (some ⟨w.heap.size, 0, none⟩), .pointer (some ⟨w.heap.size + 1 + 1 + 1, 0, none⟩)]) 124
  have m4 := m3.alloc (.cells #[.func (.func 71) #[] #[.pointer (some ⟨w.heap.size + 1 + 1, 0, none⟩), .pointer (some ⟨w.heap.size, 0, none⟩), .pointer (some ⟨w.heap.size + 1 + 1 + 1, 0, none⟩)]] 124)
  rw [hW] at b4 x4 m4
  rw [s1] at m4
  rw [s2] at x3
  rw [s3] at x4
  have bW := below_then b1 (below_then b2 (below_then b3 b4))
  refine ⟨⟨x3.below b4, x1.below (below_then b2 (below_then b3 b4)), ?_, x4, ⟨by omega, by omega, by omega⟩, _, m4, saysS_nil⟩, bW⟩
  have := on_all (w := w) (R := fun w' => Net w' (.agg #[.int .i64 n.places, .slice a len cap]) n) fun w' hs hk => hv.stays hs hk
  have := this.below bW
  intro w' hs hk
  refine hv.stays (Nat.le_trans bW.size hs) fun k hlt => ?_
  rw [hk k (Nat.lt_of_lt_of_le hlt bW.size) (by omega), bW.block k hlt]

set_option maxHeartbeats 1000000 in
theorem met_any (v : Value) (n : NetL) (hn : netOk n = true) (p : Nat) (hp : (p : Int) < n.places) (w : World) (hv : Net w v n) :
    Calls Try.prog 47 #[v, .int .i64 (p : Int)] w fun e w' => ∃ us : List Stop, e = .returned (.int .i64 (us.length : Int)) ∧ us.Nodup ∧ (∀ x, x ∈ us ↔ OnWay n (false, p) x) ∧ Below w.heap.size w w' := by
  obtain ⟨tv, rfl, hT⟩ := id hv
  obtain ⟨a, len, cap, rfl, hlen, hmx, hsh, hr⟩ := id hT
  clear hr
  have HG : Hid _ := stopcome_any (w.heap.size + 1 + 1) w.heap.size (w.heap.size + 1 + 1 + 1) (w.heap.size + 1) n hn (.slice a len cap) 1000 (false, p) []
  obtain ⟨W, HW⟩ : ∃ W, Hid ((((w.alloc (.cells #[.int .i64 n.places, .slice a len cap] 24)).alloc (.map #[] 0)).alloc (.cells #[.map (some (w.heap.size + 1))] 123)).alloc
      (.cells #[.func (.func 71) #[] #[.pointer (some ⟨w.heap.size + 1 + 1, 0, none⟩), .pointer (some ⟨w.heap.size, 0, none⟩), .pointer (some ⟨w.heap.size + 1 + 1 + 1, 0, none⟩)]] 124) = W) := ⟨_, rfl⟩
  obtain ⟨hM, hb⟩ := met_start w n a len cap hv W HW.out
  have hmm := @run_makeMap Try.prog
  go_enter Try.func47, Try.ntmps47
  go_upto_region 4 with fail
  rw [HW.out]
  clear HW hmm
  obtain ⟨c0, c1⟩ := hM.come
  go_wp2_with fail
  refine (HG.out W hp List.nodup_nil (by simp) hM (by have := (count_small hn (vs := []) List.nodup_nil (by simp)).2; omega)).mono ?_
  rintro e w' ⟨rfl, hO, us, hM2, hD, hF, hW, hin⟩
  have R : us.Nodup ∧ (∀ x, x ∈ us ↔ OnWay n (false, p) x) ∧ Below w.heap.size w w' := ⟨hD, hW.all hin, hb.trans (hO.below.mono (by omega))⟩
  have HR : Hid _ := R
  have hl := hM2.len
  obtain ⟨d0, d1⟩ := hM2.been
  clear R hD hF hW hin hO c0 c1 hM
  go_wp2
  go_ret
  exact ⟨us, rfl, HR.out⟩

end Go.Proofs.Ytakgppoeikcepaa

/- Package shape as it landed: the mark at the beginning; what comes ahead and behind; all on ways. -/
namespace Go.Proofs.Ytakgppoeikcepaa
open Go.RowKit
set_option linter.unusedVariables false
set_option maxRecDepth 4000

set_option maxHeartbeats 1000000 in
theorem shape_start_own (v : Value) (n : NetL) (i : Int) (w : World) (hv : Net w v n) :
    Calls Try.prog 10 #[v, .int .i64 i] w fun e w' => ∃ r, e = .returned r ∧ On (fun k => w.heap.size ≤ k) w' (fun w'' => Ints w'' r (startL n.places i)) ∧ Below w.heap.size w w' := by
  obtain ⟨tv, rfl, hT⟩ := hv
  obtain ⟨w0, Hw0⟩ : ∃ w0, Hid (w.alloc (.cells #[.int .i64 n.places, tv] 24) = w0) := ⟨_, rfl⟩
  have c : Below w.heap.size w w0 := by rw [← Hw0.out]; exact below_new _ _
  have hbx : Box2 w0 w.heap.size (.int .i64 n.places) tv := by rw [← Hw0.out]; exact box2_new w _ tv 24
  obtain ⟨P, HP⟩ : ∃ P, Hid (n.places = P) := ⟨_, rfl⟩
  rw [HP.out] at hbx Hw0 ⊢
  obtain ⟨N, HN⟩ : ∃ N : Nat, Hid ((min P 16).toNat = N) := ⟨_, rfl⟩
  have HL : Hid ((startL P i).length = N) := (start_length P i).trans HN.out
  have HA : Hid (∀ j, j < N → nth (startL P i) j = if (j : Int) = i then 1 else 0) := fun j hj => start_at P i j (by rw [HN.out]; exact hj)
  have hN16 : N ≤ 16 := by rw [← HN.out]; omega
  obtain ⟨x0, x1, x2⟩ := id hbx
  obtain ⟨w1, hmk, hR⟩ : ∃ w1, (Instr.makeSlice 25 (.int .i64 (min (max P 0) 16)) (.int .i64 (min (max P 0) 16))).run Try.prog w0 = .ok (.slice (some ⟨w0.heap.size, 0, none⟩) N N) w1 ∧ RowAt w0.heap.size w0 w1 N (fun _ => 0) :=
    make_intsZ w0 N _ (by rw [← HN.out]; omega) (by omega)
  have hcase : (P < 0 ∧ min (max P 0) 16 = 0) ∨ (P = 0 ∧ min (max P 0) 16 = 0) ∨ (0 < P ∧ P < 16 ∧ min (max P 0) 16 = P) ∨ (P = 16 ∧ min (max P 0) 16 = 16) ∨ (16 < P ∧ min (max P 0) 16 = 16) := by omega
  clear HN HP
  go_enter Try.func10, Try.ntmps10
  go_upto_region 1 with fail
  rw [Hw0.out]
  clear Hw0
  by_cases hin : 0 ≤ i ∧ i < N
  · obtain ⟨k, rfl⟩ : ∃ k : Nat, i = k := ⟨i.toNat, by omega⟩
    have hk : k < N := by omega
    clear hin
    have R1 := hR.put (k := k) hk (x := 1) (g := fun j => if (j : Int) = (k : Int) then 1 else 0) (by simp) (fun j _ hj => by simp; omega)
    have R : On (fun k => w.heap.size ≤ k) (w1.setCell ⟨w0.heap.size, k, none⟩ (.int .i64 1)) (fun w'' => Ints w'' (.slice (some ⟨w0.heap.size, 0, none⟩) N N) (startL P (k : Int))) :=
      (R1.on HL.out HA.out (by omega) (Nat.le_refl _) (by omega)).weaken fun k _ hk => Nat.le_trans c.size hk
    have R2 := below_then c R1.below
    have HR : Hid _ := R
    have HR2 : Hid _ := R2
    have f := hR.frozen k hk
    have c1 := hR.cells k hk
    clear R R1 R2 hR
    rcases hcase with ⟨h1, e⟩ | ⟨rfl, e⟩ | ⟨h1, h2, e⟩ | ⟨rfl, e⟩ | ⟨h1, e⟩
    all_goals
      rw [e] at hmk
      clear e
      go_wp2
      go_ret
      exact ⟨_, rfl, HR.out, HR2.out⟩
  · have R : On (fun k => w.heap.size ≤ k) w1 (fun w'' => Ints w'' (.slice (some ⟨w0.heap.size, 0, none⟩) N N) (startL P i)) :=
      (hR.on HL.out (fun j hj => by rw [HA.out j hj, if_neg (by omega)]) (by omega) (Nat.le_refl _) (by omega)).weaken fun k _ hk => Nat.le_trans c.size hk
    have R2 := below_then c hR.below
    have HR : Hid _ := R
    have HR2 : Hid _ := R2
    clear R R2 hR
    have hor : decide (0 ≤ i) = false ∨ (0 ≤ i ∧ decide (i < (N : Int)) = false) := by
      simp only [decide_eq_false_iff_not]
      omega
    clear hin
    rcases hor with h0 | ⟨h0, h3⟩
    all_goals
      rcases hcase with ⟨h1, e⟩ | ⟨rfl, e⟩ | ⟨h1, h2, e⟩ | ⟨rfl, e⟩ | ⟨h1, e⟩
      all_goals
        rw [e] at hmk
        clear e
        go_wp2
        go_ret
        exact ⟨_, rfl, HR.out, HR2.out⟩

/-- A place of a net. -/
def isPlace (P p : Int) : Bool := decide (0 ≤ p) && decide (p < P)

theorem ends1_any (bn : Nat) (P p : Int) (tv : Value) (w : World) (hx : Box2 w bn (.int .i64 P) tv) :
    Calls Try.prog 44 #[.int .i64 p, .pointer (some ⟨bn, 0, none⟩)] w fun e w' => e = .returned (.bool (isPlace P p)) ∧ w' = w := by
  obtain ⟨x0, x1, x2⟩ := hx
  go_enter Try.func44, Try.ntmps44
  cases h1 : decide (0 ≤ p)
  · have F : Hid (isPlace P p = false) := by show _ = _; simp [isPlace, h1]
    go_wp2
    go_ret
    exact ⟨ret_bool F.out.symm, rfl⟩
  · have F : Hid (isPlace P p = decide (p < P)) := by show _ = _; simp [isPlace, h1]
    have h1' : 0 ≤ p := of_decide_eq_true h1
    clear h1
    go_wp2
    go_ret
    exact ⟨ret_bool F.out.symm, rfl⟩

/-- Something comes ahead of the beginning, or behind the end. -/
def endsBad (i o : Nat) (t : TranL) : Bool := decide (0 < nth t.post i) || decide (0 < nth t.pre o)

theorem ends2_any (w0 : World) (bi bo i o : Nat) (hi : Box1 w0 bi (.int .i64 (i : Int))) (ho : Box1 w0 bo (.int .i64 (o : Int))) :
    AsksT2 w0 46 (.pointer (some ⟨bi, 0, none⟩)) (.pointer (some ⟨bo, 0, none⟩)) (fun t => i < t.post.length ∧ o < t.pre.length) (endsBad i o) := by
  intro u1 u2 x w hC hb i1 i2
  obtain ⟨hC1, hC2⟩ := hC
  obtain ⟨a1, l1, p1, rfl, hl1, _, _, hr1⟩ := id i1
  obtain ⟨a2, l2, p2, rfl, hl2, _, _, hr2⟩ := id i2
  obtain ⟨b2, o2, rfl, hb2, hc2⟩ := hr2 i hC1
  obtain ⟨b1, o1, rfl, hb1, hc1⟩ := hr1 o hC2
  have b := below_new w (.cells #[.int .i64 x.label, .slice (some ⟨b1, o1, none⟩) l1 p1, .slice (some ⟨b2, o2, none⟩) l2 p2] 37)
  have hx3 := box3_new w (.int .i64 x.label) (.slice (some ⟨b1, o1, none⟩) l1 p1) (.slice (some ⟨b2, o2, none⟩) l2 p2) 37
  obtain ⟨w1, Hw1⟩ : ∃ w1, Hid (w.alloc (.cells #[.int .i64 x.label, .slice (some ⟨b1, o1, none⟩) l1 p1, .slice (some ⟨b2, o2, none⟩) l2 p2] 37) = w1) := ⟨_, rfl⟩
  rw [Hw1.out] at b hx3
  rw [← b.cell (p := ⟨b2, o2 + i, none⟩) hb2] at hc2
  rw [← b.cell (p := ⟨b1, o1 + o, none⟩) hb1] at hc1
  obtain ⟨y0, y1⟩ := (hi.below hb).below b
  obtain ⟨z0, z1⟩ := (ho.below hb).below b
  obtain ⟨x0, x1, x2, x3⟩ := hx3
  have hil : i < l2 := by omega
  have hol : o < l1 := by omega
  obtain ⟨P, HP⟩ : ∃ P, Hid (nth x.post i = P) := ⟨_, rfl⟩
  obtain ⟨Q, HQ⟩ : ∃ Q, Hid (nth x.pre o = Q) := ⟨_, rfl⟩
  have HE : Hid (endsBad i o x = (decide (0 < P) || decide (0 < Q))) := by rw [← HP.out, ← HQ.out]; exact rfl
  rw [HP.out] at hc2
  rw [HQ.out] at hc1
  clear hi ho HP HQ hr1 hr2 i1 i2 hl1 hl2 hC1 hC2
  go_enter Try.func46, Try.ntmps46
  go_upto_region 1 with fail
  rw [Hw1.out]
  clear Hw1
  cases h1 : decide (0 < P)
  · rw [h1] at HE
    go_wp2
    go_ret
    exact ⟨ret_bool (by rw [HE.out]; simp), b⟩
  · rw [h1] at HE
    have h1' : 0 < P := of_decide_eq_true h1
    clear h1
    go_wp2
    go_ret
    exact ⟨ret_bool (by rw [HE.out]; simp), b⟩

/-- Whether there are two ends. -/
def endsL (n : NetL) (i o : Int) : Bool := isPlace n.places i && (isPlace n.places o && (!decide (i = o) && !n.trans.any (endsBad i.toNat o.toNat)))

set_option maxHeartbeats 1000000 in
theorem ends_any (v : Value) (n : NetL) (hn : netOk n = true) (i o : Int) (w : World) (hv : Net w v n) :
    Calls Try.prog 27 #[v, .int .i64 i, .int .i64 o] w fun e w' => e = .returned (.bool (endsL n i o)) ∧ Below w.heap.size w w' := by
  obtain ⟨tv, rfl, hT⟩ := hv
  obtain ⟨a, len, cap, rfl, hlen, hmx, hsh, hr⟩ := id hT
  clear hr
  have b1 := below_new w (.cells #[.int .i64 n.places, .slice a len cap] 24)
  have hbx := box2_new w (.int .i64 n.places) (.slice a len cap) 24
  obtain ⟨w1, Hw1⟩ : ∃ w1, Hid (w.alloc (.cells #[.int .i64 n.places, .slice a len cap] 24) = w1) := ⟨_, rfl⟩
  have s1 : w1.heap.size = w.heap.size + 1 := by rw [← Hw1.out]; simp
  rw [Hw1.out] at b1 hbx
  have b2 := below_new w1 (.cells #[.int .i64 i] 3)
  have hbi := box1_new w1 (.int .i64 i) 3
  rw [s1] at hbi
  obtain ⟨w2, Hw2⟩ : ∃ w2, Hid (w1.alloc (.cells #[.int .i64 i] 3) = w2) := ⟨_, rfl⟩
  have s2 : w2.heap.size = w.heap.size + 1 + 1 := by rw [← Hw2.out]; simp [s1]
  rw [Hw2.out] at b2 hbi
  have b3 := below_new w2 (.cells #[.int .i64 o] 3)
  have hbo := box1_new w2 (.int .i64 o) 3
  rw [s2] at hbo
  obtain ⟨w3, Hw3⟩ : ∃ w3, Hid (w2.alloc (.cells #[.int .i64 o] 3) = w3) := ⟨_, rfl⟩
  rw [Hw3.out] at b3 hbo
  replace hbx := (hbx.below b2).below b3
  replace hbi := hbi.below b3
  replace hT := ((hT.below b1).below b2).below b3
  have B := below_then b1 (below_then b2 b3)
  have HW : Hid (((w.alloc (.cells #[.int .i64 n.places, .slice a len cap] 24)).alloc (.cells #[.int .i64 i] 3)).alloc (.cells #[.int .i64 o] 3) = w3) := by rw [Hw1.out, Hw2.out]; exact Hw3
  clear Hw1 Hw2 Hw3 b1 b2 b3 s1 s2
  obtain ⟨x0, x1, x2⟩ := id hbx
  obtain ⟨y0, y1⟩ := id hbi
  obtain ⟨z0, z1⟩ := id hbo
  go_enter Try.func27, Try.ntmps27
  go_upto_region 1 with fail
  rw [HW.out]
  clear HW
  go_wp2_with fail
  refine (ends1_any _ n.places i _ _ hbx).mono ?_
  rintro e w' ⟨rfl, rfl⟩
  cases p1 : isPlace n.places i
  · have F : Hid (endsL n i o = false) := by show _ = _; simp [endsL, p1]
    go_wp2
    go_ret
    exact ⟨ret_bool F.out.symm, B⟩
  · go_wp2_with fail
    refine (ends1_any _ n.places o _ _ hbx).mono ?_
    rintro e w' ⟨rfl, rfl⟩
    cases p2 : isPlace n.places o
    · have F : Hid (endsL n i o = false) := by show _ = _; simp [endsL, p2]
      go_wp2
      go_ret
      exact ⟨ret_bool F.out.symm, B⟩
    · by_cases e : i = o
      · have F : Hid (endsL n i o = false) := by show _ = _; simp [endsL, e]
        subst e
        go_wp2
        go_ret
        exact ⟨ret_bool F.out.symm, B⟩
      · have F : Hid (endsL n i o = !n.trans.any (endsBad i.toNat o.toNat)) := by show _ = _; simp [endsL, p1, p2, e]
        simp only [isPlace, Bool.and_eq_true, decide_eq_true_eq] at p1 p2
        obtain ⟨ki, rfl⟩ : ∃ k : Nat, i = k := ⟨i.toNat, by omega⟩
        obtain ⟨ko, rfl⟩ : ∃ k : Nat, o = k := ⟨o.toNat, by omega⟩
        simp only [Int.toNat_natCast] at F
        have HC : Hid (∀ j, j < n.trans.length → ki < (tranAt n.trans j).post.length ∧ ko < (tranAt n.trans j).pre.length) := fun j hj => by
          have := tran_length hn hj
          omega
        have he : ((ki : Int) == (ko : Int)) = false := by rw [beq_eq_false_iff_ne]; omega
        have HA : Hid _ := ends2_any _ _ _ ki ko hbi hbo
        clear p1 p2 hbi hbo hn e
        go_wp2_with fail
        refine (containstransQ _ 46 _ _ _ _ HA.out Try.call46 _ n.trans HC.out _ (Below.refl _ _) (by exact hT)).mono ?_
        rintro e w4 ⟨rfl, b⟩
        have R := below_then B b
        clear b B
        go_wp2
        go_ret
        exact ⟨ret_bool (by rw [F.out]), R⟩

/-- All are on ways from one end to the other. -/
def Between (n : NetL) (i o : Nat) : Prop := (∀ x, FitS n x → OnWay n (false, i) x) ∧ ∀ x, FitS (turnL n) x → OnWay (turnL n) (false, o) x

set_option maxHeartbeats 1000000 in
theorem between_any (v : Value) (n : NetL) (hn : netOk n = true) (i o : Nat) (hi : (i : Int) < n.places) (ho : (o : Int) < n.places) (w : World) (hv : Net w v n) :
    Calls Try.prog 28 #[v, .int .i64 (i : Int), .int .i64 (o : Int)] w fun e w' => ∃ b : Bool, e = .returned (.bool b) ∧ (b = true ↔ Between n i o) ∧ Below w.heap.size w w' := by
  obtain ⟨tv, rfl, hT⟩ := id hv
  obtain ⟨a, len, cap, rfl, hlen, hmx, hsh, hr⟩ := id hT
  clear hr hT
  have b1 := below_new w (.cells #[.int .i64 n.places, .slice a len cap] 24)
  have hbx := box2_new w (.int .i64 n.places) (.slice a len cap) 24
  obtain ⟨w1, Hw1⟩ : ∃ w1, Hid (w.alloc (.cells #[.int .i64 n.places, .slice a len cap] 24) = w1) := ⟨_, rfl⟩
  rw [Hw1.out] at b1 hbx
  replace hv := hv.below b1
  have hh := head_of hn
  have Htn : Hid (netOk (turnL n) = true) := turn_ok n hn
  have M1 : Hid _ := fun us h1 h2 => @met_all n hn (false, i) hi us h1 h2
  have M2 : Hid _ := fun us h1 h2 => @met_all (turnL n) Htn.out (false, o) ho us h1 h2
  rw [turn_count, hlen] at M2
  rw [hlen] at M1
  obtain ⟨x0, x1, x2⟩ := id hbx
  have hP0 := hh.1
  have hP1 := hh.2.1
  have hP2 : len ≤ 24 := by have := hh.2.2; omega
  clear hh
  go_enter Try.func28, Try.ntmps28
  go_upto_region 1 with fail
  rw [Hw1.out]
  clear Hw1
  go_wp2_with fail
  refine (met_any _ n hn i hi _ (by exact hv)).mono ?_
  rintro e w2 ⟨us, rfl, hd1, hm1, b2⟩
  replace hbx := hbx.below b2
  replace hv := hv.below b2
  have B := below_then b1 b2
  have M : Hid _ := M1.out us hd1 hm1
  clear b1 b2 M1 hd1 hm1 x0 x1 x2
  obtain ⟨x0, x1, x2⟩ := id hbx
  by_cases e1 : (us.length : Int) = n.places + len
  · have M' : Hid _ := M.out.1 e1
    clear M
    go_wp2_with fail
    refine (net_turned _ n _ (by exact hv)).mono ?_
    rintro e w3 ⟨r, rfl, hr, b⟩
    replace B := below_then B b
    clear b x0 x1 x2 hbx hv
    go_wp2_with fail
    refine (met_any _ (turnL n) Htn.out o (by exact ho) _ hr).mono ?_
    rintro e w4 ⟨ts, rfl, hd2, hm2, b⟩
    replace B := below_then B b
    have N : Hid _ := M2.out ts hd2 hm2
    clear b hd2 hm2 M2 hr
    go_wp2
    go_ret
    refine ⟨_, rfl, ?_, B⟩
    have hN := N.out
    have e2 : (turnL n).places = n.places := rfl
    rw [e2] at hN
    rw [beq_iff_eq, hN]
    exact ⟨fun h => ⟨M'.out, h⟩, fun h => h.2⟩
  · have F : Hid (¬ Between n i o) := fun h => e1 (M.out.2 h.1)
    have e1' : ((us.length : Int) == n.places + (len : Int)) = false := by rw [beq_eq_false_iff_ne]; exact e1
    clear M M2 e1
    go_wp2
    go_ret
    exact ⟨false, rfl, by simp [F.out], B⟩

end Go.Proofs.Ytakgppoeikcepaa
