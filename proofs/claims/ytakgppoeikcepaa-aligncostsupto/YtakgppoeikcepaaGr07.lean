import Derived.Test.YtakgppoeikcepaaGr04
import Derived.Test.YtakgppoeikcepaaGr06
import Derived.Deep.RegionHeld3
/- The answers of the document itself for nets, with what they hang on: one fires. -/
namespace Go.Proofs.Ytakgppoeikcepaa
open Go.RowKit
set_option linter.unusedVariables false
set_option maxRecDepth 4000

/-- What a call answers that makes a mark anew, or tells what is wrong: the mark hangs on new blocks alone. -/
def GivesO (w : World) (p : List Int × Int) (e : Ending) (w' : World) : Prop :=
  ∃ r, e = .returned (.tuple #[r, .int .i64 p.2]) ∧ On (fun k => w.heap.size ≤ k) w' (fun w'' => Ints w'' r p.1) ∧ Below w.heap.size w w'

theorem givesO_of {w w' : World} {r : Value} {p : List Int × Int} {zs : List Int} {c : Int} (hp : p = (zs, c)) (hr : On (fun k => w.heap.size ≤ k) w' (fun w'' => Ints w'' r zs)) (hb : Below w.heap.size w w') : GivesO w p (.returned (.tuple #[r, .int .i64 c])) w' := by
  subst hp; exact ⟨r, rfl, hr, hb⟩
theorem on_nil (D : Nat → Prop) (w : World) : On D w (fun w' => Ints w' (.slice none 0 0) []) := fun w' _ _ => Ints.nil w'

set_option maxHeartbeats 400000 in
theorem amix_own (t : Int) (ht : t = 1 ∨ t = -1) (v u : Value) (xs ys : List Int) (w : World) (hv : Ints w v xs) (hu : Ints w u ys) (rx : rightL xs = true) (ry : rightL ys = true) :
    Calls Try.prog 80 #[v, u, .int .i64 t] w fun e w' => ∃ r, e = .returned r ∧ Own w.heap.size w w' r (zipL (mixL t) xs ys) := by
  have hv' := hv
  have hu' := hu
  obtain ⟨a, la, ca, rfl, hla, hma, hsa, hra⟩ := hv
  obtain ⟨b, lb, cb, rfl, hlb, hmb, hsb, hrb⟩ := hu
  obtain ⟨n, Hn⟩ : ∃ n : Nat, max xs.length ys.length = n := ⟨_, rfl⟩
  have HZ : Hid (zipL (mixL t) xs ys = zipTo (mixL t) xs ys n) := by show _ = _; unfold zipL zipTo; rw [Hn]
  have HX := fun j => okTok_nth rx j
  have HY := fun j => okTok_nth ry j
  have ht1 : -1 ≤ t ∧ t ≤ 1 := by omega
  have HT : Hid (t = 1 ∨ t = -1) := ht
  clear hra hrb rx ry ht
  by_cases hlt : la < lb
  case' pos => obtain rfl : n = lb := by omega
  case' neg => obtain rfl : n = la := by omega
  all_goals
    clear Hn hla hlb
    go_enter Try.func80, Try.ntmps80
    go_wp2
    go_loopw [7, 14] (fun o i wr => ∃ k : Nat, k ≤ n ∧ i = .int .i64 k ∧ Own w.heap.size w wr o (zipTo (mixL t) xs ys k)) (fun _ i _ => n - (intOf i).toNat)
    case atStart => exact ⟨0, Nat.zero_le _, rfl, Own.nil _⟩
    case round =>
      obtain ⟨k, hk, rfl, hG⟩ := hrel
      obtain ⟨hx1, hx2⟩ := HX k
      obtain ⟨hy1, hy2⟩ := HY k
      clear HX HY
      by_cases hkn : k < n
      · have hm : Hid (mixL t (nth xs k) (nth ys k) = nth xs k + t * nth ys k) := rfl
        have ht2 : -1000000 ≤ t * nth ys k ∧ t * nth ys k ≤ 1000000 := by rcases HT.out with h | h <;> rw [h] <;> omega
        go_wp2_with fail
        refine (aat_any _ xs k _ (by exact hv'.below hG.2.1)).mono ?_
        rintro e w' ⟨rfl, rfl⟩
        go_wp2_with fail
        refine (aat_any _ ys k _ (by exact hu'.below hG.2.1)).mono ?_
        rintro e w' ⟨rfl, rfl⟩
        have hlen := zipTo_length (mixL t) xs ys k
        go_wp2_with (at_builtin; refine wp_append_int rfl _ _ rfl w.heap.size w _ _ _ (nth xs k + t * nth ys k) hG rfl rfl (by rw [hlen]; omega) ?_; intro v' w1 hG')
        have R : Own w.heap.size w w1 v' (zipTo (mixL t) xs ys (k + 1)) := by rw [zipTo_succ]; exact hG'
        clear hG hG'
        go_wp2
        go_roundw
        case rel => exact ⟨k + 1, by omega, by go_num, R⟩
        case measure => simp [intOf]; omega
      · obtain rfl : k = n := by omega
        go_wp2
        go_ret
        exact ⟨_, rfl, by rw [HZ.out]; exact hG⟩

set_option maxHeartbeats 1000000 in
theorem bfire_own (v u : Value) (n : NetL) (m : List Int) (t : Int) (w : World) (hv : Net w v n) (hu : Ints w u m) (hsm : SmallNet n) :
    Calls Try.prog 58 #[v, u, .int .i64 t] w fun e w' => GivesO w (fireL n m t) e w' := by
  obtain ⟨tv, rfl, hT⟩ := hv
  have b1 := below_new w (.cells #[.int .i64 n.places, tv] 24)
  have hbx := box2_new w (.int .i64 n.places) tv 24
  have hu1 := hu.below b1
  have hv1 : Net _ _ n := ⟨tv, rfl, hT.below b1⟩
  go_enter Try.func58, Try.ntmps58
  go_wp2_with fail
  refine (bfits_any _ _ n m _ (by exact hv1) (by exact hu1) hsm).mono ?_
  rintro e w1 ⟨rfl, b2⟩
  have b3 := below_then b1 b2
  have hu2 := hu1.below b2
  have hT2 := (hT.below b1).below b2
  have hbx2 := hbx.below b2
  clear b1 b2 hbx hu1 hv1 hT
  cases hf : fitsL n m
  · have E : fireL n m t = ([], 2) := by simp [fireL, hf]
    go_wp2
    go_ret2
    exact givesO_of E (on_nil _ _) b3
  · obtain ⟨hno, _, hrm⟩ := fits_net hf
    obtain ⟨hx0, hx1, hx2⟩ := hbx2
    have hT3 := hT2
    obtain ⟨a, len, cap, rfl, hlen, hmx, hsh, hr⟩ := hT2
    clear hr
    by_cases ht0 : t < 0
    · have E : Hid (fireL n m t = ([], 3)) := by show _ = _; rw [fireL, hf, decide_eq_false (show ¬ 0 ≤ t by omega)]; rfl
      clear hf hno hrm
      go_wp2
      go_ret2
      exact givesO_of E.out (on_nil _ _) b3
    by_cases ht1 : (len : Int) ≤ t
    · have E : Hid (fireL n m t = ([], 3)) := by show _ = _; rw [fireL, hf, decide_eq_false (show ¬ t < n.trans.length by omega)]; simp
      clear hf hno hrm
      go_wp2
      go_ret2
      exact givesO_of E.out (on_nil _ _) b3
    obtain ⟨k, rfl⟩ := Int.eq_ofNat_of_zero_le (show 0 ≤ t by omega)
    have hkn : k < len := by omega
    have E0 : fireL n m k = (if coversL m (tranAt n.trans k).pre then
      (if rightL (addL (subL m (tranAt n.trans k).pre) (tranAt n.trans k).post) then (addL (subL m (tranAt n.trans k).pre) (tranAt n.trans k).post, 0) else ([], 4)) else ([], 3)) := by
      rw [fireL, hf, decide_eq_true (show (0 : Int) ≤ k by omega), decide_eq_true (show (k : Int) < n.trans.length by omega), Int.toNat_natCast]; simp
    have E1 : Hid _ := E0
    obtain ⟨b, off, c1, c2, rfl, hblt, h0, h1, h2, i1, i2⟩ := hT3.at hkn
    obtain ⟨hr1, hr2⟩ := tran_right (net_tran hno (show k < n.trans.length by omega))
    have hge : ¬ ((len : Int) ≤ (k : Int)) := by omega
    have HLm : Hid (m.length ≤ 17592186044416) := by show _ ≤ _; obtain ⟨_, _, _, _, h1, h2, _⟩ := hu2; omega
    have HL1 : Hid ((tranAt n.trans k).pre.length ≤ 17592186044416) := by show _ ≤ _; obtain ⟨_, _, _, _, h1, h2, _⟩ := i1; omega
    have HL2 : Hid ((tranAt n.trans k).post.length ≤ 17592186044416) := by show _ ≤ _; obtain ⟨_, _, _, _, h1, h2, _⟩ := i2; omega
    have HLz : Hid (∀ {f : Int → Int → Int} (xs ys : List Int), xs.length ≤ 17592186044416 → ys.length ≤ 17592186044416 → (zipL f xs ys).length ≤ 17592186044416) := by intro f xs ys h1 h2; rw [zipL_length]; omega
    clear E0 hf hno ht0 ht1
    generalize tranAt n.trans k = t at *
    go_wp2_with fail
    refine (acovers_b _ _ m t.pre _ hu2 i1).mono ?_
    rintro e w2 ⟨rfl, hb2⟩
    have b4 := below_then b3 hb2
    have hu3 := hu2.below hb2
    have i1' := i1.below hb2
    have i2' := i2.below hb2
    have hx1' := (hb2.cell (p := ⟨w.heap.size, 1, none⟩) hx0).trans hx2
    have h1' := (hb2.cell (p := ⟨b, _, none⟩) hblt).trans h1
    have h2' := (hb2.cell (p := ⟨b, _, none⟩) hblt).trans h2
    have hy0 := Nat.lt_of_lt_of_le hx0 hb2.size
    have hy1 := Nat.lt_of_lt_of_le hblt hb2.size
    clear hb2 hu2 i1 i2 h0 h1 h2 hx0 hx1 hx2 hT3 b3
    cases hc : coversL m t.pre
    · have E : Hid (fireL n m k = ([], 3)) := by show _ = _; rw [E1.out, hc]; rfl
      clear E1 hc
      go_wp2
      go_ret2
      exact givesO_of E.out (on_nil _ _) b4
    · have hrs : rightL (subL m t.pre) = true := by rw [subL, right_minus hrm hr1]; exact hc
      have HLs : Hid ((subL m t.pre).length ≤ 17592186044416) := by show _ ≤ _; rw [subL, zipL_length]; have := HLm.out; have := HL1.out; omega
      go_wp2
      go_region_held3 (fun w' => w'.cell? ⟨w.heap.size, 1, none⟩ = some (.slice (some ⟨b, off, none⟩) len cap) ∧ w'.cell? ⟨b, off + k * 3 + 1, none⟩ = some c1 ∧ w'.cell? ⟨b, off + k * 3 + 2, none⟩ = some c2)
        (go_keep)
        (first | (go_at_call_of 80 c1; refine (amix_own (-1) (.inr rfl) _ _ m t.pre _ ?_ ?_ hrm hr1).mono ?_; exact hu3.drewN 1; exact i1'.drewN 1; rintro e w4 ⟨r, rfl, hO4⟩; have hR := hO4.ints (HLz.out _ _ HLm.out HL1.out); have hbR := hO4.2.1; have k1 := (hbR.cell (p := ⟨w.heap.size, 1, none⟩) hy0).trans hx1'; have k2 := (hbR.cell (p := ⟨b, _, none⟩) hy1).trans h1'; have k3 := (hbR.cell (p := ⟨b, _, none⟩) hy1).trans h2') | (go_at_call_of 80 c2; refine (amix_own 1 (.inl rfl) _ _ (subL m t.pre) t.post _ ?_ ?_ hrs hr2).mono ?_; (rw [mix_less] at hR; exact hR); exact (i2'.drewN 1).below hbR; rintro e w5 ⟨r2, rfl, hO5⟩; have hR2 := hO5.ints (HLz.out _ _ HLs.out HL2.out); have hbR2 := hO5.2.1; have k1 := (hbR2.cell (p := ⟨w.heap.size, 1, none⟩) (Nat.lt_of_lt_of_le hy0 hbR.size)).trans k1; have k2 := (hbR2.cell (p := ⟨b, _, none⟩) (Nat.lt_of_lt_of_le hy1 hbR.size)).trans k2; have k3 := (hbR2.cell (p := ⟨b, _, none⟩) (Nat.lt_of_lt_of_le hy1 hbR.size)).trans k3))
      have HOn : Hid (On (fun k => w.heap.size ≤ k) w5 (fun w' => Ints w' r2 (addL (subL m t.pre) t.post))) := by
        have q := (hO5.on (HLz.out _ _ HLs.out HL2.out)).weaken (D' := fun k => w.heap.size ≤ k) fun k _ hk => Nat.le_trans (Nat.le_trans b4.size (by simpa using hbR.size)) hk
        rw [mix_one] at q; exact q
      rw [mix_one] at hR2
      have b5 : Below w.heap.size w w5 := below_then b4 ((below_drewN (Below.refl _ _) 1).trans ((hbR.trans (hbR2.mono hbR.size))))
      clear k1 k2 k3 hbR hbR2 hR i1' i2' hx1' h1' h2' hy0 hy1 hO4 hO5
      go_wp2_with fail
      refine (aright_any _ _ _ hR2).mono ?_
      rintro e w' ⟨rfl, rfl⟩
      have E2 : Hid (fireL n m k = (if rightL (zipL (fun x1 x2 => x1 + x2) (subL m t.pre) t.post) then (addL (subL m t.pre) t.post, 0) else ([], 4))) := by
        show _ = _; rw [E1.out, hc]; rfl
      clear E1 hc
      cases hz : rightL (zipL (fun x1 x2 => x1 + x2) (subL m t.pre) t.post)
      · have E : Hid (fireL n m k = ([], 4)) := by show _ = _; rw [E2.out, hz]; rfl
        clear E2 hz
        go_wp2
        go_ret2
        exact givesO_of E.out (on_nil _ _) b5
      · have E : Hid (fireL n m k = (addL (subL m t.pre) t.post, 0)) := by show _ = _; rw [E2.out, hz]; rfl
        clear E2 hz
        go_wp2
        go_ret2
        exact givesO_of E.out HOn.out b5

end Go.Proofs.Ytakgppoeikcepaa

/- The answers of the document itself for reach: all marks. -/
namespace Go.Proofs.Ytakgppoeikcepaa
open Go.RowKit
set_option linter.unusedVariables false
set_option maxRecDepth 4000

theorem SpaceAt.sliceM {x y B : Nat} {W wr : World} {s : SpaceL} {mv av : Value} {us : List Value} (h : SpaceAt x y B W wr s mv av us) : ∃ a cap, mv = .slice a s.marks.length cap := by
  rcases h.rowM.2 with ⟨e, h0⟩ | ⟨g, cap', cur, e, _⟩
  · exact ⟨none, 0, by rw [e, ← h.len, h0]⟩
  · exact ⟨_, _, by rw [e, h.len]⟩
theorem SpaceAt.sliceA {x y B : Nat} {W wr : World} {s : SpaceL} {mv av : Value} {us : List Value} (h : SpaceAt x y B W wr s mv av us) : ∃ a cap, av = .slice a s.arcs.length cap := by
  rcases h.rowA.2 with ⟨e, h0⟩ | ⟨g, cap', cur, e, _⟩
  · exact ⟨none, 0, by rw [e, h0]⟩
  · exact ⟨_, _, e⟩

theorem space_start (W : World) (u : Value) (m : List Int) (y : Nat) (hy : y < W.heap.size) (h1 : u.oneCell' = true) (hu : On (fun k => k ≠ y ∧ k < W.heap.size) W (fun w' => Ints w' u m)) :
    SpaceAt (W.heap.size + 1) y W.heap.size W ((W.alloc (.cells #[u] 25)).alloc (.cells #[.slice (some ⟨W.heap.size, 0, none⟩) 1 1, .slice none 0 0] 49)) ⟨[m], []⟩ (.slice (some ⟨W.heap.size, 0, none⟩) 1 1) (.slice none 0 0) [u] := by
  have b1 := below_new W (.cells #[u] 25)
  have b2 := below_new (W.alloc (.cells #[u] 25)) (.cells #[.slice (some ⟨W.heap.size, 0, none⟩) 1 1, .slice none 0 0] 49)
  have e1 : (W.alloc (.cells #[u] 25)).heap.size = W.heap.size + 1 := by simp
  have hx := box2_new (W.alloc (.cells #[u] 25)) (.slice (some ⟨W.heap.size, 0, none⟩) 1 1) (.slice none 0 0) 49
  rw [e1] at hx
  refine ⟨⟨by simp, .inr ⟨W.heap.size, 1, #[u], rfl, Nat.le_refl _, ?_, by simp, by unfold maxLen; omega, by simp, by simp⟩⟩, World.ownsRow_nil _ _ _ _, below_then b1 b2, by omega, by simp, hy, hx.2.1, hx.2.2, ?_, ?_, ?_, ?_, ?_, by simp, ?_⟩
  · rw [b2.block W.heap.size (by simp)]
    exact heap_alloc_new W _
  · rw [World.frozen?_alloc_at _ _ _ _ (by simp)]
  · rw [World.frozen?_alloc_at _ _ _ _ (by simp)]
  · simp [Value.ownBlock]
  · simp [Value.ownBlock]
  · intro k _; simp [Value.ownBlock]
  · intro j hj
    have e : j = 0 := by simpa using hj
    subst e
    refine ⟨h1, ?_⟩
    have q := (hu.below b1).below b2
    refine q.weaken fun k hlt hk => ⟨by omega, hk.1, ?_, by simp [Value.ownBlock]⟩
    simp [Value.ownBlock]; omega

/-- What is handed back: the space, in the block of the answer. -/
theorem SpaceAt.out {x y B : Nat} {W wr : World} {s : SpaceL} {mv av : Value} {us : List Value} (h : SpaceAt x y B W wr s mv av us) (hl : us.length ≤ 5864062014805) (hl2 : s.arcs.length ≤ 5864062014805) :
    Lists ((wr.setCell ⟨y, 0, none⟩ mv).setCell ⟨y, 1, none⟩ av) mv s.marks ∧ Arcs ((wr.setCell ⟨y, 0, none⟩ mv).setCell ⟨y, 1, none⟩ av) av (s.arcs.map arcZ) := by
  have hy := h.hy
  have hxy : x ≠ y := by have := h.hx; omega
  have hM : ∀ k, mv.ownBlock = some k → B ≤ k := fun k hk => (ownsRow_lt h.rowM hk).1
  have hA : ∀ k, av.ownBlock = some k → B ≤ k := fun k hk => (ownsRow_lt h.rowA hk).1
  have key : ∀ (o : Nat) (u : Value) (w1 : World), SpaceAt x y B w1 w1 s mv av us → SpaceAt x y B (w1.setCell ⟨y, o, none⟩ u) (w1.setCell ⟨y, o, none⟩ u) s mv av us := by
    intro o u w1 g
    have hc : (w1.setCell ⟨y, o, none⟩ u).heap[x]? = w1.heap[x]? := Below.heap_setCell w1 ⟨y, o, none⟩ u x hxy
    exact { g with
      rowM := ((ownsRow_on g.rowM).set (a := ⟨y, o, none⟩) (fun e => by have := hM y e.1; omega) u).now
      rowA := ((ownsRow_on g.rowA).set (a := ⟨y, o, none⟩) (fun e => by have := hA y e.1; omega) u).now
      below := Below.refl _ _
      hlt := by have := g.hlt; simp [World.setCell]; omega
      c0 := (World.cell?_of_block (a := ⟨x, 0, none⟩) hc).trans g.c0
      c1 := (World.cell?_of_block (a := ⟨x, 1, none⟩) hc).trans g.c1
      f0 := (World.frozen?_of_block (a := ⟨x, 0, none⟩) hc).trans g.f0
      f1 := (World.frozen?_of_block (a := ⟨x, 1, none⟩) hc).trans g.f1
      els := fun j hj => ⟨(g.els j hj).1, (g.els j hj).2.set (a := ⟨y, o, none⟩) (fun e => e.2.1 rfl) u⟩ }
  have g0 : SpaceAt x y B wr wr s mv av us := { h with below := Below.refl _ _ }
  have g2 := key 1 av _ (key 0 mv _ g0)
  exact ⟨g2.lists hl, g2.arcsR hl2⟩

theorem wp_append_mark {ops : Array Oper} {rest : List Oper} {o : Oper} {a : Act} {Q : Exit → Act → World → Prop} (hgd : o.guard = none) (s x : Operand)
    (ho : o.op = .call { callee := .builtin .append, args := #[s, x], argTypes := #[46, 46] }) (B : Nat) (wr : World) (v : Value) (us : List Value) (ax : Option Addr) (lx cx : Nat)
    (hown : wr.ownsRow B 25 1 v us.length us) (hs : a.eval s = v) (hx : a.eval x = .slice (some ⟨wr.heap.size, 0, none⟩) 1 1) (hl : us.length + 1 ≤ 5864062014805) (hB : B ≤ wr.heap.size)
    (h : ∀ v' w', w'.ownsRow B 25 1 v' (us.length + 1) (us ++ [.slice ax lx cx]) → (wr.alloc (.cells #[.slice ax lx cx] 25)).grownBy w' v.ownBlock →
      (v'.ownBlock = v.ownBlock ∨ v'.ownBlock = some (wr.alloc (.cells #[.slice ax lx cx] 25)).heap.size) → wpList Try.prog ops Q rest (a.put o.dst v') w') :
    wpList Try.prog ops Q (o :: rest) a (wr.alloc (.cells #[.slice ax lx cx] 25)) := by
  obtain ⟨i0, hi, hz0, hz1, hz2⟩ := info_parts info_ints
  refine wpList_append_own_at _ hgd s x 46 ho B 25 i0 _ 1 24 Try.underlying46 hi hz0 hz1 hz2 rfl (by decide) v us.length _ hs (hown.alloc _) ⟨wr.heap.size, 0, none⟩ 1 1 [.slice ax lx cx] hx rfl (cell_one_new _ _ _) ?_ ?_ ?_ ?_ ?_
  · intro u hu; simp at hu; subst hu; rfl
  · unfold maxLen; omega
  · omega
  · simp; omega
  · intro v' w' h1 h2 _ h3
    exact h v' w' h1 h2 h3

theorem wp_append_arc {ops : Array Oper} {rest : List Oper} {o : Oper} {a : Act} {Q : Exit → Act → World → Prop} (hgd : o.guard = none) (s x : Operand)
    (ho : o.op = .call { callee := .builtin .append, args := #[s, x], argTypes := #[47, 47] }) (B : Nat) (wr : World) (v : Value) (l : List ArcL) (f t g : Int)
    (hown : wr.ownsRow B 69 3 v l.length (arcCells l)) (hs : a.eval s = v) (hx : a.eval x = .slice (some ⟨wr.heap.size, 0, none⟩) 1 1) (hl : l.length + 1 ≤ 5864062014805) (hB : B ≤ wr.heap.size)
    (h : ∀ v' w', w'.ownsRow B 69 3 v' (l.length + 1) (arcCells l ++ [.int .i64 f, .int .i64 t, .int .i64 g]) → (wr.alloc (.cells #[.int .i64 f, .int .i64 t, .int .i64 g] 69)).grownBy w' v.ownBlock →
      (v'.ownBlock = v.ownBlock ∨ v'.ownBlock = some (wr.alloc (.cells #[.int .i64 f, .int .i64 t, .int .i64 g] 69)).heap.size) → wpList Try.prog ops Q rest (a.put o.dst v') w') :
    wpList Try.prog ops Q (o :: rest) a (wr.alloc (.cells #[.int .i64 f, .int .i64 t, .int .i64 g] 69)) := by
  obtain ⟨i0, hi, hz0, hz1, hz2⟩ := info_parts info_arc
  refine wpList_append_own_at _ hgd s x 47 ho B 69 i0 _ 3 24 Try.underlying47 hi hz0 hz1 hz2 rfl (by decide) v l.length _ hs (hown.alloc _) ⟨wr.heap.size, 0, none⟩ 1 1 [.int .i64 f, .int .i64 t, .int .i64 g] hx rfl ?_ ?_ ?_ ?_ ?_ ?_
  · intro j u hj
    rw [addr_add, World.cell?_alloc_at _ _ _ _ rfl]
    match j, hj with
    | 0, hj => simpa using hj
    | 1, hj => simpa using hj
    | 2, hj => simpa using hj
  · intro u hu
    simp only [List.mem_cons, List.not_mem_nil, or_false] at hu
    rcases hu with rfl | rfl | rfl <;> rfl
  · unfold maxLen; omega
  · omega
  · simp; omega
  · intro v' w' h1 h2 _ h3
    exact h v' w' h1 h2 h3

theorem row_none {n : NetL} {most k : Nat} {s : SpaceL} {t : Nat} (h : rowTo n most k s t = none) : ∀ j, rowTo n most k s (t + j) = none := by
  intro j
  induction j with
  | zero => exact h
  | succ j ih => rw [← Nat.add_assoc, rowTo, ih]; rfl
theorem graph_none {n : NetL} {m : List Int} {most k : Nat} (h : graphTo n m most k = none) : ∀ j, graphTo n m most (k + j) = none := by
  intro j
  induction j with
  | zero => exact h
  | succ j ih => rw [← Nat.add_assoc, graphTo, ih]; rfl

/-- What the search among the first j marks has come to. -/
def SeekTo (ms : List (List Int)) (x : List Int) (j : Nat) (z : Int) : Prop := (z = -1 ∧ ∀ i, i < j → markAt ms i ≠ x) ∨ ∃ i, i < j ∧ z = i ∧ markAt ms i = x
theorem seek_done {ms : List (List Int)} {x : List Int} {z : Int} (hn : ms.Nodup) (h : SeekTo ms x ms.length z) : (z = -1 ∧ findM ms x = none) ∨ ∃ i : Nat, i < ms.length ∧ z = i ∧ findM ms x = some i := by
  rcases h with ⟨e, h⟩ | ⟨i, hi, e, h⟩
  · left
    refine ⟨e, ?_⟩
    cases hf : findM ms x with
    | none => rfl
    | some g => obtain ⟨h1, h2⟩ := findM_some hf; exact absurd h2 (h g h1)
  · right
    exact ⟨i, hi, e, by rw [← h]; exact findM_at hn hi⟩
theorem seek_yes {ms : List (List Int)} {x : List Int} {j : Nat} (h : markAt ms j = x) : SeekTo ms x (j + 1) j := .inr ⟨j, by omega, rfl, h⟩
theorem seek_no {ms : List (List Int)} {x : List Int} {j : Nat} {z : Int} (h : SeekTo ms x j z) (hn : markAt ms j ≠ x) : SeekTo ms x (j + 1) z := by
  rcases h with ⟨e, h⟩ | ⟨i, hi, e, h⟩
  · exact .inl ⟨e, fun i hi => by
      by_cases q : i = j
      · subst q; exact hn
      · exact h i (by omega)⟩
  · exact .inr ⟨i, by omega, e, h⟩

/-- What was made behind it hangs on none of its blocks. -/
theorem SpaceAt.fresh {x y B : Nat} {W wr w' : World} {s : SpaceL} {mv av : Value} {us : List Value} (h : SpaceAt x y B W wr s mv av us) {R : World → Prop} (hR : On (fun k => wr.heap.size ≤ k) w' R) :
    On (fun k => k ≠ x ∧ k ≠ y ∧ mv.ownBlock ≠ some k ∧ av.ownBlock ≠ some k) w' R := by
  have h1 := h.hlt
  have h2 := h.hx
  have h3 := h.hy
  refine hR.weaken fun k _ hk => ⟨by omega, by omega, fun e => ?_, fun e => ?_⟩
  · have := ownsRow_lt h.rowM e; omega
  · have := ownsRow_lt h.rowA e; omega

theorem tryT_arcs {n : NetL} {most k t : Nat} {s s' : SpaceL} (e : tryT n most k s t = some s') : s'.arcs.length ≤ s.arcs.length + 1 := by
  unfold tryT at e
  split at e
  · injection e with e; subst e; omega
  · split at e
    · split at e
      · injection e with e; subst e; simp
      · split at e
        · cases e
        · injection e with e; subst e; simp
    · cases e
theorem rowTo_arcs {n : NetL} {most k : Nat} {s : SpaceL} : ∀ (t : Nat) {s' : SpaceL}, rowTo n most k s t = some s' → s'.arcs.length ≤ s.arcs.length + t := by
  intro t
  induction t with
  | zero => intro s' e; injection e with e; subst e; omega
  | succ t ih =>
    intro s' e
    simp only [rowTo, Option.bind_eq_some_iff] at e
    obtain ⟨s1, e1, e2⟩ := e
    have := ih e1
    have := tryT_arcs e2
    omega
theorem graphTo_arcs {n : NetL} {m : List Int} {most : Nat} (hT : n.trans.length ≤ 24) : ∀ (k : Nat) {s : SpaceL}, graphTo n m most k = some s → s.arcs.length ≤ k * 24 := by
  intro k
  induction k with
  | zero => intro s e; injection e with e; subst e; simp
  | succ k ih =>
    intro s e
    simp only [graphTo, Option.bind_eq_some_iff] at e
    obtain ⟨s1, e1, e2⟩ := e
    have h1 := ih e1
    by_cases hk : k < s1.marks.length
    · rw [if_pos hk] at e2
      have := rowTo_arcs _ e2
      omega
    · rw [if_neg hk] at e2
      injection e2 with e2
      subst e2
      omega
theorem fits_trans {n : NetL} {m : List Int} (h : fitsL n m = true) : n.trans.length ≤ 24 := by
  have h1 := (fits_net h).1
  simp only [netOk, headOk, Bool.and_eq_true, decide_eq_true_eq] at h1
  exact h1.1.2

/-- One that fails fails all. -/
theorem graph_fails {n : NetL} {m : List Int} {M k t : Nat} {s s' : SpaceL} (hg : graphTo n m M k = some s) (hk : k < s.marks.length) (hkM : k < M) (hr : rowTo n M k s t = some s') (ht : t < n.trans.length) (hn : tryT n M k s' t = none) : graphTo n m M M = none := by
  have h1 : rowTo n M k s (t + 1) = none := by rw [rowTo, hr]; exact hn
  have h2 := row_none h1 (n.trans.length - (t + 1))
  rw [show t + 1 + (n.trans.length - (t + 1)) = n.trans.length by omega] at h2
  have h3 : graphTo n m M (k + 1) = none := by rw [graphTo, hg]; simp only [Option.bind_some, if_pos hk]; exact h2
  have h4 := graph_none h3 (M - (k + 1))
  rw [show k + 1 + (M - (k + 1)) = M by omega] at h4
  exact h4
theorem tryT_skip {n : NetL} {M k t : Nat} {s : SpaceL} {z : List Int} (h : fireL n (markAt s.marks k) t = (z, 3)) : tryT n M k s t = some s := by
  unfold tryT; rw [h]; rfl
theorem tryT_full {n : NetL} {M k t : Nat} {s : SpaceL} {z : List Int} {cd : Int} (h : fireL n (markAt s.marks k) t = (z, cd)) (h3 : cd ≠ 3) (h0 : cd ≠ 0) : tryT n M k s t = none := by
  unfold tryT; rw [h]; simp [h3, h0]
theorem tryT_old {n : NetL} {M k t g : Nat} {s : SpaceL} {z : List Int} (h : fireL n (markAt s.marks k) t = (z, 0)) (hf : findM s.marks z = some g) : tryT n M k s t = some ⟨s.marks, s.arcs ++ [⟨k, t, g⟩]⟩ := by
  unfold tryT; rw [h]; simp [hf]
theorem tryT_most {n : NetL} {M k t : Nat} {s : SpaceL} {z : List Int} (h : fireL n (markAt s.marks k) t = (z, 0)) (hf : findM s.marks z = none) (hl : s.marks.length = M) : tryT n M k s t = none := by
  unfold tryT; rw [h]; simp [hf, hl]
theorem tryT_new {n : NetL} {M k t : Nat} {s : SpaceL} {z : List Int} (h : fireL n (markAt s.marks k) t = (z, 0)) (hf : findM s.marks z = none) (hl : s.marks.length ≠ M) : tryT n M k s t = some ⟨s.marks ++ [z], s.arcs ++ [⟨k, t, s.marks.length⟩]⟩ := by
  unfold tryT; rw [h]; simp [hf, hl]
theorem row_step {n : NetL} {M k t : Nat} {s s' s2 : SpaceL} (hr : rowTo n M k s t = some s') (h : tryT n M k s' t = some s2) : rowTo n M k s (t + 1) = some s2 := by
  rw [rowTo, hr]; exact h

theorem SpaceAt.afterM {x y B : Nat} {W wr W' wC : World} {s : SpaceL} {mv av : Value} {us : List Value} (h : SpaceAt x y B W wr s mv av us) (hb : Below wr.heap.size wr W') (hg : W'.grownBy wC mv.ownBlock) :
    wC.cell? ⟨x, 0, none⟩ = some mv ∧ wC.frozen? ⟨x, 0, none⟩ = false := by
  have g := h.to hb
  have hc : wC.heap[x]? = W'.heap[x]? := hg.block x g.hlt (fun e => g.apM e.symm)
  exact ⟨(World.cell?_of_block (a := ⟨x, 0, none⟩) hc).trans g.c0, (World.frozen?_of_block (a := ⟨x, 0, none⟩) hc).trans g.f0⟩
theorem SpaceAt.afterA {x y B : Nat} {W wr W' wC : World} {s : SpaceL} {mv av : Value} {us : List Value} (h : SpaceAt x y B W wr s mv av us) (hb : Below wr.heap.size wr W') (hg : W'.grownBy wC av.ownBlock) :
    wC.cell? ⟨x, 1, none⟩ = some av ∧ wC.frozen? ⟨x, 1, none⟩ = false := by
  have g := h.to hb
  have hc : wC.heap[x]? = W'.heap[x]? := hg.block x g.hlt (fun e => g.apA e.symm)
  exact ⟨(World.cell?_of_block (a := ⟨x, 1, none⟩) hc).trans g.c1, (World.frozen?_of_block (a := ⟨x, 1, none⟩) hc).trans g.f1⟩

end Go.Proofs.Ytakgppoeikcepaa

/- The marks that are come to from one mark, transition by transition: only those that can fire need be tried. -/
namespace Go.Proofs.Ytakgppoeikcepaa
set_option linter.unusedVariables false
set_option maxRecDepth 4000

/-- These transitions are tried at mark k. -/
def rowOn (n : NetL) (M k : Nat) (s : SpaceL) (ts : List Nat) : Option SpaceL := ts.foldlM (tryT n M k) s

theorem rowOn_nil (n : NetL) (M k : Nat) (s : SpaceL) : rowOn n M k s [] = some s := rfl
theorem rowOn_snoc (n : NetL) (M k : Nat) (s : SpaceL) (ts : List Nat) (t : Nat) : rowOn n M k s (ts ++ [t]) = (rowOn n M k s ts).bind fun s' => tryT n M k s' t := by
  unfold rowOn
  rw [List.foldlM_append]
  cases h : ts.foldlM (tryT n M k) s with
  | none => rfl
  | some s' =>
    show ([t].foldlM (tryT n M k) s') = tryT n M k s' t
    rw [List.foldlM_cons]
    cases tryT n M k s' t <;> rfl

theorem rowOn_none {n : NetL} {M k : Nat} {s : SpaceL} {ts : List Nat} {us : List Nat} (h : rowOn n M k s ts = none) : rowOn n M k s (ts ++ us) = none := by
  unfold rowOn at *
  rw [List.foldlM_append, h]
  rfl

theorem tryT_pre {n : NetL} {M k t : Nat} {s s' : SpaceL} (e : tryT n M k s t = some s') : ∃ r, s'.marks = s.marks ++ r := by
  unfold tryT at e
  split at e
  · injection e with e; subst e; exact ⟨[], by simp⟩
  · split at e
    · split at e
      · injection e with e; subst e; exact ⟨[], by simp⟩
      · split at e
        · cases e
        · injection e with e; subst e; exact ⟨_, rfl⟩
    · cases e

theorem rowTo_pre {n : NetL} {M k : Nat} {s : SpaceL} : ∀ (t : Nat) {s' : SpaceL}, rowTo n M k s t = some s' → ∃ r, s'.marks = s.marks ++ r := by
  intro t
  induction t with
  | zero => intro s' e; injection e with e; subst e; exact ⟨[], by simp⟩
  | succ t ih =>
    intro s' e
    simp only [rowTo, Option.bind_eq_some_iff] at e
    obtain ⟨s1, e1, e2⟩ := e
    obtain ⟨r1, h1⟩ := ih e1
    obtain ⟨r2, h2⟩ := tryT_pre e2
    exact ⟨r1 ++ r2, by rw [h2, h1, List.append_assoc]⟩

/-- Those that can fire at m, rising. -/
def canN (n : NetL) (m : List Int) (T : Nat) : List Nat := (List.range T).filter fun t => coversL m (tranAt n.trans t).pre
theorem canTo_canN (n : NetL) (m : List Int) (T : Nat) : canTo n m T = (canN n m T).map fun t => ((t : Nat) : Int) := rfl

theorem rowTo_on {n : NetL} {M k : Nat} {s : SpaceL} (hk : k < s.marks.length) (hf : fitsL n (markAt s.marks k) = true) : ∀ T, T ≤ n.trans.length → rowTo n M k s T = rowOn n M k s (canN n (markAt s.marks k) T) := by
  intro T
  induction T with
  | zero => intro _; rfl
  | succ T ih =>
    intro hT
    have h1 := ih (by omega)
    rw [rowTo]
    unfold canN
    rw [List.range_succ, List.filter_append]
    cases hc : coversL (markAt s.marks k) (tranAt n.trans T).pre with
    | true =>
      rw [show ([T].filter fun t => coversL (markAt s.marks k) (tranAt n.trans t).pre) = [T] by simp [hc]]
      rw [rowOn_snoc, h1]
      rfl
    | false =>
      rw [show ([T].filter fun t => coversL (markAt s.marks k) (tranAt n.trans t).pre) = [] by simp [hc], List.append_nil]
      cases hr : rowTo n M k s T with
      | none => rw [hr] at h1; show none = _; exact h1
      | some s' =>
        rw [hr] at h1
        show tryT n M k s' T = _
        obtain ⟨r, hm⟩ := rowTo_pre T hr
        have hmk : markAt s'.marks k = markAt s.marks k := by rw [hm]; exact markAt_append hk
        have h3 : fireL n (markAt s'.marks k) T = ([], 3) := by
          rw [hmk, fireL, hf]
          simp [hc]
        rw [tryT_skip h3]
        exact h1

/-- How each mark was found first. -/
structure Tied (s : SpaceL) (bys : List ArcL) : Prop where
  len : bys.length = s.marks.length
  dst : ∀ a ∈ s.arcs, a.dst < s.marks.length
  first : ∀ g, 0 < g → g < s.marks.length → firstTo s.arcs g = bys[g]?

theorem tied_start (m : List Int) (a : ArcL) : Tied ⟨[m], []⟩ [a] := ⟨rfl, by simp, fun g h1 h2 => by simp at h2; omega⟩

theorem Tied.old {s : SpaceL} {bys : List ArcL} (h : Tied s bys) {f t g : Nat} (hg : g < s.marks.length) : Tied ⟨s.marks, s.arcs ++ [⟨f, t, g⟩]⟩ bys := by
  refine ⟨h.len, fun a ha => ?_, fun g' h1 h2 => ?_⟩
  · rcases List.mem_append.1 ha with ha | ha
    · exact h.dst a ha
    · rw [List.mem_singleton] at ha; subst ha; exact hg
  · have e := h.first g' h1 h2
    have hb : g' < bys.length := by rw [h.len]; exact h2
    rw [List.getElem?_eq_getElem hb] at e ⊢
    exact firstTo_append e

theorem Tied.new {s : SpaceL} {bys : List ArcL} (h : Tied s bys) (z : List Int) {f t l : Nat} (hl : l = s.marks.length) : Tied ⟨s.marks ++ [z], s.arcs ++ [⟨f, t, l⟩]⟩ (bys ++ [⟨f, t, l⟩]) := by
  subst hl
  refine ⟨by simp [h.len], fun a ha => ?_, fun g' h1 h2 => ?_⟩
  · rcases List.mem_append.1 ha with ha | ha
    · have := h.dst a ha; simp; omega
    · rw [List.mem_singleton] at ha; subst ha; simp
  · by_cases hg : g' < s.marks.length
    · have e := h.first g' h1 hg
      have hb : g' < bys.length := by rw [h.len]; exact hg
      rw [List.getElem?_append_left hb]
      rw [List.getElem?_eq_getElem hb] at e ⊢
      exact firstTo_append e
    · have e : g' = s.marks.length := by simp at h2; omega
      subst e
      have hn : firstTo s.arcs s.marks.length = none := firstTo_none fun a ha => by have := h.dst a ha; omega
      rw [firstTo_new hn rfl, ← h.len, List.getElem?_append_right (Nat.le_refl _)]
      simp

end Go.Proofs.Ytakgppoeikcepaa

/- The answers of the document itself for reach: all marks, walked. -/
namespace Go.Proofs.Ytakgppoeikcepaa
open Go.RowKit
set_option linter.unusedVariables false
set_option maxRecDepth 4000

/-- Two blocks of two cells, one behind the other. -/
theorem two_newB (w W : World) (x y x' y' : Value) (t t' : TypeId) (h : (w.alloc (.cells #[x, y] t)).alloc (.cells #[x', y'] t') = W) :
    Below w.heap.size w W ∧ Box2 W w.heap.size x y ∧ Box2 W (w.heap.size + 1) x' y' ∧ (∀ j, W.frozen? ⟨w.heap.size + 1, j, none⟩ = false) ∧ W.heap.size = w.heap.size + 1 + 1 := by
  have b1 := below_new w (.cells #[x, y] t)
  have b2 := below_new (w.alloc (.cells #[x, y] t)) (.cells #[x', y'] t')
  have h1 := (box2_new w x y t).below b2
  have h2 := box2_new (w.alloc (.cells #[x, y] t)) x' y' t'
  have e : (w.alloc (.cells #[x, y] t)).heap.size = w.heap.size + 1 := by simp
  rw [e] at h2
  subst h
  exact ⟨below_then b1 b2, h1, h2, fun j => by rw [World.frozen?_alloc_at _ _ _ _ (by simp)], by simp⟩

theorem space_nil (w : World) : Space w (.agg #[.slice none 0 0, .slice none 0 0]) ⟨[], []⟩ :=
  ⟨_, _, rfl, ⟨none, 0, 0, rfl, rfl, by omega, ⟨by omega, by omega, fun _ => rfl⟩, fun j hj => absurd hj (by simp)⟩, ⟨none, 0, 0, rfl, rfl, by omega, ⟨by omega, by omega, fun _ => rfl⟩, fun j hj => absurd hj (by simp)⟩⟩

theorem givesS_of {w w' : World} {r : Value} {p : SpaceL × Int} {s : SpaceL} {c : Int} (hp : p = (s, c)) (hr : Space w' r s) (hb : Below w.heap.size w w') : GivesS w p (.returned (.tuple #[r, .int .i64 c])) w' := by
  subst hp; exact ⟨r, rfl, hr, hb⟩

set_option maxRecDepth 4000 in
set_option maxHeartbeats 8000000 in
theorem dgraph_any (v u : Value) (n : NetL) (m : List Int) (most : Int) (w : World) (hv : Net w v n) (hu : Ints w u m) (hsm : SmallNet n) :
    Calls Try.prog 33 #[v, u, .int .i64 most] w fun e w' => GivesS w (graphL n m most) e w' := by
  obtain ⟨tv, rfl, hT⟩ := hv
  obtain ⟨ta, tl, tc, rfl, htl, htm, hts, _⟩ := id hT
  obtain ⟨W0, HW0⟩ : ∃ W0, Hid (((w.alloc (.cells #[.int .i64 n.places, .slice ta tl tc] 24)).alloc (.cells #[.slice none 0 0, .slice none 0 0] 49)) = W0) := ⟨_, rfl⟩
  obtain ⟨b3, hbx, hres, hfr, hsz⟩ := two_newB _ _ _ _ _ _ _ _ HW0.out
  have hv : Net W0 (.agg #[.int .i64 n.places, .slice ta tl tc]) n := ⟨_, rfl, hT.below b3⟩
  have hon : On (fun k => k ≠ w.heap.size + 1 ∧ k < W0.heap.size) W0 (fun w' => Ints w' u m) := ((ints_old hu).below b3).weaken fun k _ hk => ⟨by omega, by omega⟩
  replace hu := hu.below b3
  have Hfr : Hid _ := hfr
  have hys : w.heap.size + 1 < W0.heap.size := by omega
  clear hT hfr
  obtain ⟨x0, x1, x2⟩ := id hbx
  obtain ⟨y0, y1, y2⟩ := id hres
  have f0 := Hfr.out 0
  have f1 := Hfr.out 1
  have hE5 : Below w.heap.size w ((W0.setCell ⟨w.heap.size + 1, 0, none⟩ (.slice none 0 0)).setCell ⟨w.heap.size + 1, 1, none⟩ (.slice none 0 0)) :=
    (b3.setCell (p := ⟨w.heap.size + 1, 0, none⟩) (by simp) _).setCell (p := ⟨w.heap.size + 1, 1, none⟩) (by simp) _
  have HE5 : Hid _ := hE5
  clear hE5
  go_enter Try.func33, Try.ntmps33
  go_upto_region 1 with fail
  rw [HW0.out]
  clear HW0
  by_cases hm1 : most < 1
  · have E : Hid (graphL n m most = (⟨[], []⟩, 2)) := by show _ = _; rw [graphL, graphOk, decide_eq_false (by omega)]; rfl
    go_wp2_with fail
    refine bodyPost_ret (v := .tuple #[.agg #[.slice none 0 0, .slice none 0 0], .int .i64 2]) ?_ rfl (givesS_of E.out (space_nil _) HE5.out)
    simp [results, Try.results33, go_sem, y1, y2]
  by_cases hm2 : 300 < most
  · have E : Hid (graphL n m most = (⟨[], []⟩, 2)) := by show _ = _; rw [graphL, graphOk, decide_eq_false (show ¬ most ≤ 300 by omega)]; simp
    go_wp2_with fail
    refine bodyPost_ret (v := .tuple #[.agg #[.slice none 0 0, .slice none 0 0], .int .i64 2]) ?_ rfl (givesS_of E.out (space_nil _) HE5.out)
    simp [results, Try.results33, go_sem, y1, y2]
  clear HE5
  go_wp2_with fail
  refine (bfits_any _ _ n m _ (by exact hv) (by exact hu) hsm).mono ?_
  rintro e W ⟨rfl, b⟩
  replace hon := hon.below b
  replace hv := hv.below b
  replace hu := hu.below b
  replace hbx := hbx.below b
  replace hres := hres.below b
  replace b3 := below_then b3 b
  have hys2 : w.heap.size + 1 < W.heap.size := Nat.lt_of_lt_of_le hys b.size
  have hfr2 : Hid (∀ j, W.frozen? ⟨w.heap.size + 1, j, none⟩ = false) := fun j => by rw [b.frozen (p := ⟨w.heap.size + 1, j, none⟩) hys]; exact Hfr.out j
  replace hon := hon.weaken (D' := fun k => k ≠ w.heap.size + 1 ∧ k < W.heap.size) fun k hlt hk => ⟨hk.1, hlt⟩
  clear b x0 x1 x2 y0 y1 y2 f0 f1 Hfr hsz hys
  cases hf : fitsL n m
  · have E : Hid (graphL n m most = (⟨[], []⟩, 2)) := by show _ = _; rw [graphL, graphOk, hf]; simp
    obtain ⟨y0, y1, y2⟩ := hres
    have f0 := hfr2.out 0
    have f1 := hfr2.out 1
    have hE5 : Below w.heap.size w ((W.setCell ⟨w.heap.size + 1, 0, none⟩ (.slice none 0 0)).setCell ⟨w.heap.size + 1, 1, none⟩ (.slice none 0 0)) :=
      (b3.setCell (p := ⟨w.heap.size + 1, 0, none⟩) (by simp) _).setCell (p := ⟨w.heap.size + 1, 1, none⟩) (by simp) _
    have HE5 : Hid _ := hE5
    clear hE5
    go_wp2_with fail
    refine bodyPost_ret (v := .tuple #[.agg #[.slice none 0 0, .slice none 0 0], .int .i64 2]) ?_ rfl (givesS_of E.out (space_nil _) HE5.out)
    simp [results, Try.results33, go_sem, y1, y2]
  obtain ⟨M, rfl⟩ := Int.eq_ofNat_of_zero_le (show 0 ≤ most by omega)
  have HG : Hid (∀ o, graphTo n m M M = o → graphL n m M = match o with | some s => (s, 0) | none => (⟨[], []⟩, 4)) := by
    intro o ho
    have hok : graphOk n m M = true := by simp only [graphOk, Bool.and_eq_true, decide_eq_true_eq]; exact ⟨⟨by omega, by omega⟩, hf⟩
    rw [graphL, hok]
    simp only [if_true, Int.toNat_natCast]
    rw [ho]
    cases o <;> rfl
  have HFd : Hid (∀ k s, graphTo n m M k = some s → Found n m M k 0 s) := fun k s h => graphTo_found (by omega) hf k h
  have HT24 : Hid (n.trans.length ≤ 24) := fits_trans hf
  have hM1 : 1 ≤ M := by omega
  have hM3 : M ≤ 300 := by omega
  obtain ⟨ua, ul, uc, rfl, _, _, _, _⟩ := id hu
  have hst := space_start W (.slice ua ul uc) m (w.heap.size + 1) hys2 rfl hon
  obtain ⟨Ws, HWs⟩ : ∃ Ws, Hid (((W.alloc (.cells #[.slice ua ul uc] 25)).alloc (.cells #[.slice (some ⟨W.heap.size, 0, none⟩) 1 1, .slice none 0 0] 49)) = Ws) := ⟨_, rfl⟩
  rw [HWs.out] at hst
  have HnT : Hid (n.trans.length = tl) := htl
  clear hu hon hm1 hm2 hf htl
  go_upto_region 4 with fail
  rw [HWs.out]
  clear HWs
  go_wp2_with fail
  go_loopg [9] M (fun g i wr => ∃ (k : Nat) (s : SpaceL) (mv av : Value) (us : List Value), k + g = M ∧ i = .int .i64 k ∧ SpaceAt (W.heap.size + 1) (w.heap.size + 1) W.heap.size W wr s mv av us ∧ Hid (graphTo n m M k = some s))
  case atStart => exact ⟨0, _, _, _, _, by omega, rfl, hst, rfl⟩
  case round =>
    clear hst
    obtain ⟨k, s, mv, av, us, hkg, rfl, hS, Hgr⟩ := hrel
    obtain ⟨G, hGk⟩ : ∃ G, G = gk := ⟨_, rfl⟩
    obtain ⟨WR, hWRk⟩ : ∃ WR, WR = wr := ⟨_, rfl⟩
    subst hGk hWRk
    have hF : Found n m M k 0 s := HFd.out k s Hgr.out
    obtain ⟨am, cm, rfl⟩ := hS.sliceM
    have c0 := hS.c0
    have hml : s.marks.length ≤ M := hF.most_le
    obtain ⟨lm, Hlm⟩ : ∃ lm, Hid (s.marks.length = lm) := ⟨_, rfl⟩
    rw [Hlm.out] at c0 hml
    by_cases hkl : k < lm
    · obtain ⟨xb0, xb1, xb2⟩ := hbx.below hS.below
      have HF : Hid _ := hF
      clear hF
      go_wp2_with fail
      clear c0 xb0 xb1 xb2
      go_loopg [42] tl (fun g i wr => ∃ (t : Nat) (s' : SpaceL) (mv av : Value) (us : List Value), t + g = tl ∧ i = .int .i64 t ∧ SpaceAt (W.heap.size + 1) (w.heap.size + 1) W.heap.size W wr s' mv av us ∧ Hid (rowTo n M k s t = some s'))
      case atStart => exact ⟨0, s, _, av, us, by omega, rfl, hS, rfl⟩
      case round =>
        clear hS
        obtain ⟨t, s', mv, av, us, htg, rfl, hS, Hrow⟩ := hrel
        obtain ⟨G2, hGk⟩ : ∃ G2, G2 = gk := ⟨_, rfl⟩
        obtain ⟨WT, hWTk⟩ : ∃ WT, WT = wr := ⟨_, rfl⟩
        subst hGk hWTk
        by_cases htl : t < tl
        · have hkl2 : k < s.marks.length := by have := Hlm.out; omega
          obtain ⟨hF2, hLo⟩ := rowTo_found HF.out hkl2 t (by have := HnT.out; omega) Hrow.out
          have hk' : k < s'.marks.length := Nat.lt_of_lt_of_le hkl2 hLo.le
          have hml2 := hF2.most_le
          have Hnd : Hid _ := hF2.nodup
          have Har : Hid (s'.arcs.length + 1 ≤ 5864062014805) := by
            show _ ≤ _
            have h1 := rowTo_arcs _ Hrow.out
            have h2 := graphTo_arcs HT24.out _ Hgr.out
            have h3 := HT24.out
            have h4 := HnT.out
            omega
          have Hfail : Hid (tryT n M k s' t = none → graphTo n m M M = none) := fun h => graph_fails Hgr.out hkl2 (by omega) Hrow.out (by have := HnT.out; omega) h
          have Hstep : Hid (∀ s2, tryT n M k s' t = some s2 → rowTo n M k s (t + 1) = some s2) := fun s2 h => row_step Hrow.out h
          have hul : us.length ≤ 5864062014805 := by rw [hS.len]; omega
          have hL := hS.lists hul
          obtain ⟨am, cm, rfl⟩ := hS.sliceM
          obtain ⟨lm2, Hlm2⟩ : ∃ lm2, Hid (s'.marks.length = lm2) := ⟨_, rfl⟩
          have c0 := hS.c0
          rw [Hlm2.out] at hL c0 hk' hml2
          obtain ⟨b2, o2, u2, rfl, hb2, d2, i2⟩ := hL.at hk'
          have hv2 := hv.below hS.below
          obtain ⟨x0, x1, x2⟩ := hbx.below hS.below
          have hlt := hS.hlt
          clear hF2 hLo hkl2
          have Hmore : Hid _ := Hrow
          go_wp2_with fail
          go_region_held3 (fun w' => (w'.cell? ⟨w.heap.size, 0, none⟩ = some (.int .i64 n.places) ∧ w'.cell? ⟨w.heap.size, 1, none⟩ = some (.slice ta tl tc)) ∧ w'.cell? ⟨W.heap.size + 1, 0, none⟩ = some (.slice (some ⟨b2, o2, none⟩) lm2 cm) ∧ w'.cell? ⟨b2, o2 + k, none⟩ = some u2)
            (go_keep)
            (first
              | (go_at_call 58; refine (bfire_own _ _ n (markAt s'.marks k) t _ ?_ ?_ hsm).mono ?_; exact hv2.below (below_drewN (Below.refl _ _) 1); exact i2.drewN 1; rintro e w5 ⟨r5, rfl, hr5, q5⟩; have hO5 := hS.fresh hr5; have q5 := below_then (below_drewN (Below.refl WT.heap.size WT) 1) q5; have e1 := (q5.cell (p := ⟨w.heap.size, 0, none⟩) x0).trans x1; have e2 := (q5.cell (p := ⟨w.heap.size, 1, none⟩) x0).trans x2; have e3 := (q5.cell (p := ⟨W.heap.size + 1, 0, none⟩) hlt).trans c0; have e4 := (q5.cell (p := ⟨b2, o2 + k, none⟩) hb2).trans d2))
          replace hS := hS.to q5
          clear e1 e2 e3 e4 hr5 x0 x1 x2 c0 d2 i2 hv2 hL q5 hb2
          obtain ⟨q, hq⟩ : ∃ q, fireL n (markAt s'.marks k) t = q := ⟨_, rfl⟩
          have Hq : Hid _ := hq
          rw [hq] at hO5 ⊢
          clear hq
          obtain ⟨z, cd⟩ := q
          simp only at hO5 ⊢
          by_cases h3 : cd = 3
          · subst h3
            have R : Hid _ := Hstep.out s' (tryT_skip Hq.out)
            clear Hstep Hfail Hq hO5
            go_wp2
            go_roundg (G2 - 1)
            case measure => omega
            case rel => exact ⟨t + 1, s', _, av, us, by omega, by go_num, hS, R⟩
          have n3 : (cd == 3) = false := by simpa using h3
          have c0 := hS.c0
          have hL := hS.lists hul
          rw [Hlm2.out] at c0 hL
          go_wp2_with fail
          clear c0
          go_loopg [13, 61] lm2 (fun g o i wr => ∃ (j : Nat) (zz : Int), j + g = lm2 ∧ i = .int .i64 j ∧ o = .int .i64 zz ∧ Hid (SeekTo s'.marks z j zz) ∧ Below w5.heap.size w5 wr)
          case atStart => exact ⟨0, -1, by omega, rfl, rfl, .inl ⟨rfl, fun i hi => absurd hi (Nat.not_lt_zero _)⟩, Below.refl _ _⟩
          case round =>
            obtain ⟨j, zz, hjg, rfl, rfl, Hsk, hb⟩ := hrel
            by_cases hjn : j < lm2
            · obtain ⟨b3', o3, u3, e, _, d3, i3⟩ := (hL.below hb).at hjn
              injection e with e
              injection e with ea eb
              subst ea eb
              have hz := (hO5.below hb).now
              go_wp2_with fail
              refine (equal_b _ _ _ _ _ (by exact hz) (by exact i3)).mono ?_
              rintro e w6 ⟨rfl, b'⟩
              have R := below_then hb b'
              clear hb b' i3 d3 hz
              cases hy : (z == markAt s'.marks j)
              · have F : Hid (SeekTo s'.marks z (j + 1) zz) := seek_no Hsk.out (fun e => by rw [e] at hy; simp at hy)
                clear hy
                go_wp2
                go_roundg (gk - 1)
                case measure => omega
                case rel => exact ⟨j + 1, zz, by omega, by go_num, rfl, F, R⟩
              · have F : Hid (SeekTo s'.marks z (j + 1) (j : Int)) := seek_yes (by simpa using (beq_iff_eq.1 hy).symm)
                clear hy
                go_wp2
                go_roundg (gk - 1)
                case measure => omega
                case rel => exact ⟨j + 1, (j : Int), by omega, by go_num, rfl, F, R⟩
            · have hjl : j = s'.marks.length := by have := Hlm2.out; omega
              have Hd : Hid _ := seek_done Hnd.out (hjl ▸ Hsk.out)
              replace hS := hS.to hb
              replace hO5 := hO5.below hb
              clear hjl hL hb Hsk
              have c0 := hS.c0
              rw [Hlm2.out] at c0
              obtain ⟨y0, y1, y2⟩ := hres.below hS.below
              have f0 : wr.frozen? ⟨w.heap.size + 1, 0, none⟩ = false := by rw [hS.below.frozen (p := ⟨w.heap.size + 1, 0, none⟩) hys2]; exact hfr2.out 0
              have f1 : wr.frozen? ⟨w.heap.size + 1, 1, none⟩ = false := by rw [hS.below.frozen (p := ⟨w.heap.size + 1, 1, none⟩) hys2]; exact hfr2.out 1
              have hE5 : Below w.heap.size w ((wr.setCell ⟨w.heap.size + 1, 0, none⟩ (.slice none 0 0)).setCell ⟨w.heap.size + 1, 1, none⟩ (.slice none 0 0)) :=
                ((below_then b3 hS.below).setCell (p := ⟨w.heap.size + 1, 0, none⟩) (by simp) _).setCell (p := ⟨w.heap.size + 1, 1, none⟩) (by simp) _
              have HE5 : Hid _ := hE5
              clear hE5
              by_cases h0 : cd = 0
              case neg =>
                have n0 : (cd != 0) = true := by simpa using h0
                have E : Hid (graphL n m M = (⟨[], []⟩, 4)) := HG.out none (Hfail.out (tryT_full Hq.out h3 h0))
                clear Hstep Hfail Hq Hd
                go_wp2_with fail
                refine bodyPost_ret (v := .tuple #[.agg #[.slice none 0 0, .slice none 0 0], .int .i64 4]) ?_ rfl (givesS_of E.out (space_nil _) HE5.out)
                simp [results, Try.results33, go_sem, y1, y2]
              subst h0
              rcases Hd.out with ⟨rfl, hfn⟩ | ⟨i, hi, rfl, hfs⟩
              · by_cases hl : lm2 = M
                · have nl : (((lm2 : Nat) : Int) == (M : Int)) = true := by simp [hl]
                  have E : Hid (graphL n m M = (⟨[], []⟩, 4)) := HG.out none (Hfail.out (tryT_most Hq.out hfn (by rw [Hlm2.out]; exact hl)))
                  clear Hstep Hfail Hq Hd hfn
                  go_wp2_with fail
                  refine bodyPost_ret (v := .tuple #[.agg #[.slice none 0 0, .slice none 0 0], .int .i64 4]) ?_ rfl (givesS_of E.out (space_nil _) HE5.out)
                  simp [results, Try.results33, go_sem, y1, y2]
                · have nl : (((lm2 : Nat) : Int) == (M : Int)) = false := by simp; omega
                  have R : Hid (rowTo n M k s (t + 1) = some ⟨s'.marks ++ [z], s'.arcs ++ [⟨k, t, lm2⟩]⟩) := by
                    have := Hstep.out _ (tryT_new Hq.out hfn (by rw [Hlm2.out]; exact hl))
                    rw [Hlm2.out] at this; exact this
                  clear Hstep Hfail Hq Hd hfn HE5 y0 y1 y2 f0 f1
                  obtain ⟨ax, lx, cx, rfl, _, _, _, _⟩ := hO5.now
                  have hBw : W.heap.size ≤ wr.heap.size := Nat.le_trans hS.hx (Nat.le_of_lt hS.hlt)
                  have hf0 := hS.f0
                  have hbn := below_new wr (.cells #[.slice ax lx cx] 25)
                  have Hmk : Hid _ := fun wC mv' => @SpaceAt.mark _ _ _ _ _ wC _ _ _ mv' _ _ _ (hS.to hbn) rfl (hO5.below hbn)
                  have hxW : W.heap.size + 1 < wr.heap.size := hS.hlt
                  have hrm := hS.rowM
                  rw [Hlm2.out] at hrm
                  have hap := hS.apM
                  go_upto_region 23 with fail
                  go_cut [13] (fun o wc => o = .int .i64 (lm2 : Int) ∧ ∃ mv', SpaceAt (W.heap.size + 1) (w.heap.size + 1) W.heap.size W wc ⟨s'.marks ++ [z], s'.arcs⟩ mv' av (us ++ [.slice ax lx cx]))
                  case first =>
                    go_wp2_with (at_builtin; refine wp_append_mark rfl _ _ rfl W.heap.size wr _ us ax lx cx hrm rfl rfl (by have := hS.len; have := Hlm2.out; omega) hBw ?_; intro v' wC hC hgC hatC; obtain ⟨va, vl, vc, rfl⟩ := ownsRow_slice hC; obtain ⟨k1, k2⟩ := hS.afterM hbn hgC; have HR : Hid _ := Hmk.out wC _ hC hgC hatC)
                    go_meet
                    exact ⟨rfl, _, HR.out⟩
                  case rest =>
                    clear hS c0 hrm hap Hmk hO5 hbn hf0
                    obtain ⟨rfl, mv', hS⟩ := hcut
                    obtain ⟨w8, Hw8⟩ : ∃ w8, w8 = wc := ⟨_, rfl⟩
                    subst Hw8
                    obtain ⟨aa, ca, rfl⟩ := hS.sliceA
                    have hBw2 : W.heap.size ≤ w8.heap.size := Nat.le_trans hS.hx (Nat.le_of_lt hS.hlt)
                    have c1 := hS.c1
                    have hra := hS.rowA
                    have hbn := below_new w8 (.cells #[.int .i64 (k : Int), .int .i64 (t : Int), .int .i64 (lm2 : Int)] 69)
                    have Hmk : Hid _ := fun wC av' => @SpaceAt.arc _ _ _ _ _ wC _ _ _ av' _ ⟨k, t, lm2⟩ (hS.to hbn)
                    go_wp2_with (at_builtin; refine wp_append_arc rfl _ _ rfl W.heap.size w8 _ s'.arcs (k : Int) (t : Int) (lm2 : Int) hra rfl rfl Har.out hBw2 ?_; intro v' wC hC hgC hatC; obtain ⟨va, vl, vc, rfl⟩ := ownsRow_slice hC; obtain ⟨k1, k2⟩ := hS.afterA hbn hgC; have HR : Hid _ := Hmk.out wC _ hC hgC hatC)
                    go_roundg (G2 - 1)
                    case measure => omega
                    case rel => exact ⟨t + 1, _, _, _, _, by omega, by go_num, HR.out, R⟩
              · have R : Hid (rowTo n M k s (t + 1) = some ⟨s'.marks, s'.arcs ++ [⟨k, t, i⟩]⟩) := Hstep.out _ (tryT_old Hq.out hfs)
                clear Hstep Hfail Hq Hd hfs HE5 y0 y1 y2 f0 f1 hO5
                obtain ⟨aa, ca, rfl⟩ := hS.sliceA
                have hBw2 : W.heap.size ≤ wr.heap.size := Nat.le_trans hS.hx (Nat.le_of_lt hS.hlt)
                have c1 := hS.c1
                have hra := hS.rowA
                have hbn := below_new wr (.cells #[.int .i64 (k : Int), .int .i64 (t : Int), .int .i64 (i : Int)] 69)
                have Hmk : Hid _ := fun wC av' => @SpaceAt.arc _ _ _ _ _ wC _ _ _ av' _ ⟨k, t, i⟩ (hS.to hbn)
                have hi0 : ¬ ((i : Int) < 0) := by omega
                go_wp2_with (at_builtin; refine wp_append_arc rfl _ _ rfl W.heap.size wr _ s'.arcs (k : Int) (t : Int) (i : Int) hra rfl rfl Har.out hBw2 ?_; intro v' wC hC hgC hatC; obtain ⟨va, vl, vc, rfl⟩ := ownsRow_slice hC; obtain ⟨k1, k2⟩ := hS.afterA hbn hgC; have HR : Hid _ := Hmk.out wC _ hC hgC hatC)
                go_roundg (G2 - 1)
                case measure => omega
                case rel => exact ⟨t + 1, _, _, _, _, by omega, by go_num, HR.out, R⟩
        · obtain rfl : t = tl := by omega
          have R : Hid (graphTo n m M (k + 1) = some s') := by
            show _ = _
            rw [graphTo, Hgr.out]
            simp only [Option.bind_some]
            rw [if_pos (by have := Hlm.out; omega), HnT.out]
            exact Hrow.out
          clear Hrow
          go_wp2
          go_roundg (G - 1)
          case measure => omega
          case rel => exact ⟨k + 1, s', _, _, _, by omega, by go_num, hS, R⟩
    · have E : Hid (graphL n m M = (s, 0)) := by
        have := graph_stable Hgr.out (by have := Hlm.out; omega) (M - k)
        rw [show k + (M - k) = M by omega] at this
        exact HG.out _ this
      have hal : s.arcs.length ≤ 5864062014805 := by have := graphTo_arcs HT24.out _ Hgr.out; omega
      obtain ⟨aa, ca, rfl⟩ := hS.sliceA
      have Hout : Hid _ := hS.out (by rw [hS.len]; have := hF.most_le; omega) hal
      have c1 := hS.c1
      obtain ⟨y0, y1, y2⟩ := hres.below hS.below
      have f0 : WR.frozen? ⟨w.heap.size + 1, 0, none⟩ = false := by rw [hS.below.frozen (p := ⟨w.heap.size + 1, 0, none⟩) hys2]; exact hfr2.out 0
      have f1 : WR.frozen? ⟨w.heap.size + 1, 1, none⟩ = false := by rw [hS.below.frozen (p := ⟨w.heap.size + 1, 1, none⟩) hys2]; exact hfr2.out 1
      obtain ⟨la, Hla⟩ : ∃ la, Hid (s.arcs.length = la) := ⟨_, rfl⟩
      rw [Hla.out] at c1
      have hb5 : Below w.heap.size w ((WR.setCell ⟨w.heap.size + 1, 0, none⟩ (.slice am lm cm)).setCell ⟨w.heap.size + 1, 1, none⟩ (.slice aa la ca)) :=
        ((below_then b3 hS.below).setCell (p := ⟨w.heap.size + 1, 0, none⟩) (by simp) _).setCell (p := ⟨w.heap.size + 1, 1, none⟩) (by simp) _
      have Hb5 : Hid _ := hb5
      have Hsp : Hid (Space ((WR.setCell ⟨w.heap.size + 1, 0, none⟩ (.slice am lm cm)).setCell ⟨w.heap.size + 1, 1, none⟩ (.slice aa la ca)) (.agg #[.slice am lm cm, .slice aa la ca]) s) := by
        have := Hout.out
        rw [Hlm.out, Hla.out] at this
        exact ⟨_, _, rfl, this.1, this.2⟩
      clear hb5 Hout hF
      go_wp2_with fail
      refine bodyPost_ret (v := .tuple #[.agg #[.slice am lm cm, .slice aa la ca], .int .i64 0]) ?_ rfl (givesS_of E.out Hsp.out Hb5.out)
      simp [results, Try.results33, go_sem, y1, y2]

end Go.Proofs.Ytakgppoeikcepaa
