/- Package live as it landed: spread. -/
import Derived.Test.YtlejaeecfeiajaaLiveSpr
import Derived.Laws.EntriesVeiled
namespace Go.Proofs.Ytlejaeecfeiajaa
open Go.RowKit
set_option linter.unusedVariables false
set_option maxRecDepth 4000

/-- append of one number onto a row of which one knows where it begins. -/
theorem wp_append_from {ops : Array Oper} {rest : List Oper} {o : Oper} {a : Act} {Q : Exit → Act → World → Prop} (hgd : o.guard = none) (s x : Operand)
    (ho : o.op = .call { callee := .builtin .append, args := #[s, x], argTypes := #[28, 28] }) (B : Nat) (wr : World) (v : Value) (zs : List Int) (z : Int) (hown : wr.ownsRow B 3 1 v zs.length (zs.map (Value.int .i64))) (hB : B ≤ wr.heap.size)
    (hs : a.eval s = v) (hx : a.eval x = .slice (some ⟨wr.heap.size, 0, none⟩) 1 1) (hl : zs.length + 1 ≤ 17592186044416)
    (h : ∀ v' w', w'.ownsRow B 3 1 v' (zs.length + 1) (zs.map (Value.int .i64) ++ [.int .i64 z]) → (wr.alloc (.cells #[.int .i64 z] 3)).grownBy w' v.ownBlock → wpList Try.prog ops Q rest (a.put o.dst v') w') : wpList Try.prog ops Q (o :: rest) a (wr.alloc (.cells #[.int .i64 z] 3)) := by
  obtain ⟨i0, hi, hz0, hz1, hz2⟩ := info_parts info_int
  refine wpList_append_own _ hgd s x 28 ho B 3 i0 (.int .i64 0) 1 8 Try.underlying28 hi hz0 hz1 hz2 rfl (by decide) v zs.length _ hs (hown.alloc _) ⟨wr.heap.size, 0, none⟩ 1 1 [.int .i64 z] hx rfl ?_ ?_ ?_ ?_ ?_ ?_
  · intro j u hj
    match j, hj with
    | 0, hj => simp at hj; subst hj; simp [Addr.add]
  · intro u hu; simp at hu; subst hu; rfl
  · unfold maxLen; omega
  · omega
  · simp; omega
  · intro v' w' hown' hgrow _
    exact h v' w' hown' hgrow

set_option maxHeartbeats 1000000 in
theorem come_any {w wr : World} {B n bb tb : Nat} {f : Nat → Bool} {tv : Value} {todo : List Int} (hS : SprAt w B n bb tb wr f tv todo) (x : Nat) (hx : x < n) (hl : todo.length + 1 ≤ 17592186044416) :
    Calls Try.prog 53 #[.int .i64 x, .pointer (some ⟨bb, 0, none⟩), .pointer (some ⟨tb, 0, none⟩)] wr fun e w' => e = .returned (.tuple #[]) ∧
      ((f x = true ∧ w' = wr) ∨ (f x = false ∧ ∃ tv', SprAt w B n bb tb w' (updT f x) tv' (todo ++ [(x : Int)]))) := by
  obtain ⟨y0, y1⟩ := hS.box
  have hc := hS.row.cells x hx
  have hfz := hS.row.frozen x hx
  cases hf : f x
  · have hS2 := hS.note hx
    obtain ⟨y2, y3⟩ := hS2.box
    obtain ⟨t0, t1⟩ := hS2.tcell
    obtain ⟨w2, Hw2⟩ : ∃ w2, Hid (wr.setCell ⟨B, x, none⟩ (.bool true) = w2) := ⟨_, rfl⟩
    rw [Hw2.out] at hS2 y2 y3 t0 t1
    have Hl : Hid _ := hl
    clear hl
    obtain ⟨ta, tl, tc, htv⟩ := ownsRow_slice hS2.own
    subst htv
    have hown := hS2.own
    have hB := hS2.lt
    rw [hf] at hc
    go_enter Try.func53, Try.ntmps53
    go_upto_region 2 with fail
    rw [Hw2.out]
    clear Hw2 hc hfz y0 y1 hS
    go_wp2_with (at_builtin; refine wp_append_from rfl _ _ rfl (tb + 1) w2 _ _ (x : Int) hown hB rfl rfl Hl.out ?_; intro v' w3 hO3 hg3; obtain ⟨a', l', c', rfl⟩ := ownsRow_slice hO3; have hS3 := hS2.to (below_new w2 (.cells #[.int .i64 (x : Int)] 3)); have hS4 := hS3.push hO3 hg3; obtain ⟨u0, u1⟩ := hS3.grownCell hg3)
    clear u0 u1 hS3 hO3 hg3 hS2 hown y2 y3 t0 t1 hB
    go_wp2
    go_end0
    exact ⟨rfl, .inr ⟨trivial, _, hS4⟩⟩
  · rw [hf] at hc
    go_enter Try.func53, Try.ntmps53
    go_wp2
    go_end0
    exact ⟨rfl, .inl ⟨trivial, rfl⟩⟩

theorem spr_boxes (w : World) (B n : Nat) (f : Nat → Bool) (hR : BoolRow w B n f) : ∃ w1, Hid ((w.alloc (.cells #[.slice (some ⟨B, 0, none⟩) n n] 56)).alloc (.cells #[.slice none 0 0] 28) = w1) ∧ SprAt w B n w.heap.size (w.heap.size + 1) w1 f (.slice none 0 0) [] := by
  have b1 := below_new w (.cells #[.slice (some ⟨B, 0, none⟩) n n] 56)
  have b2 := below_new (w.alloc (.cells #[.slice (some ⟨B, 0, none⟩) n n] 56)) (.cells #[.slice none 0 0] 28)
  have b3 := below_then b1 b2
  refine ⟨_, rfl, hR.below b3, (box1_new w _ _).below b2, ?_, World.ownsRow_nil _ _ _ _, ⟨b3.mono (Nat.le_of_lt hR.lt), b3.size, fun k hk _ => b3.block k hk⟩, hR.lt, Nat.le_refl _, by omega⟩
  show ((w.heap.push _).push _)[w.heap.size + 1]? = _
  rw [show w.heap.size + 1 = (w.heap.push (Obj.cells #[Value.slice (some ⟨B, 0, none⟩) n n] 56)).size by simp]
  exact Array.getElem?_push_size

set_option maxHeartbeats 2000000 in
theorem spread_any (w : World) (nv : Value) (nx : List (List Int)) (n B m : Nat) (f : Nat → Bool) (hN : NextAt w (fun k => k ≠ B) nv nx) (hl : nx.length = n) (hi : Inside nx n) (hn : n ≤ 5864062014805) (hR : BoolRow w B n f) (hf : Shut nx n f) (hm : m < n) :
    Calls Try.prog 34 #[nv, .slice (some ⟨B, 0, none⟩) n n, .int .i64 m] w fun e w' => e = .returned (.tuple #[]) ∧ ∃ g, BoolRow w' B n g ∧ Spread nx n f m g ∧ OnlyB B w w' := by
  obtain ⟨w1, Hw1, hS⟩ := spr_boxes w B n f hR
  obtain ⟨an, cn, hnv, hN⟩ := hN
  subst hnv
  rw [hl] at hN ⊢
  have HN : Hid _ := hN
  clear hN
  have HI : Hid (Inside nx n) := hi
  have HL : Hid _ := hl
  have Hf0 : Hid (Shut nx n f) := hf
  have Hsp : Hid (Spr nx n f m f [] n 0) := Spr.start hf m
  have Hz : Hid (([] : List Int).length + 1 ≤ 17592186044416) := by show _ ≤ _; simp
  clear hi hl hf hR
  go_enter Try.func34, Try.ntmps34
  go_upto_region 2 with fail
  rw [Hw1.out]
  clear Hw1
  go_wp2_with fail
  refine (come_any hS m hm Hz.out).mono ?_
  rintro e w2 ⟨rfl, hcase⟩
  have key : ∃ f2 tv2 todo2, SprAt w B n w.heap.size (w.heap.size + 1) w2 f2 tv2 todo2 ∧ Hid (Spr nx n f m f2 todo2 n 0) ∧ Hid (f2 m = true) := by
    rcases hcase with ⟨h1, rfl⟩ | ⟨h1, tv', h2⟩
    · exact ⟨_, _, _, hS, Hsp, h1⟩
    · exact ⟨_, _, _, h2, Hsp.out.come hm h1 (Goes.here m), updT_same f m⟩
  clear hcase hS Hsp Hz
  obtain ⟨f2, tv2, todo2, hS, Hsp, Hm⟩ := key
  go_wp2_with fail
  go_loopg [8] (2 * cntF f2 n + todo2.length) (fun g q wr => ∃ f3 tv3 todo3, g = 2 * cntF f3 n + todo3.length ∧ SprAt w B n w.heap.size (w.heap.size + 1) wr f3 tv3 todo3 ∧ Hid (Spr nx n f m f3 todo3 n 0) ∧ Hid (f3 m = true))
  case atStart => exact ⟨f2, tv2, todo2, rfl, hS, Hsp, Hm⟩
  case round =>
    clear hS Hsp Hm
    obtain ⟨f3, tv3, todo3, hgk, hS, Hsp, Hm⟩ := hrel
    obtain ⟨G, hGk⟩ : ∃ G, G = gk := ⟨_, rfl⟩
    subst hGk
    rcases List.eq_nil_or_concat todo3 with hnil | ⟨t, z, hcat⟩
    · subst hnil
      obtain ⟨a3, c3, htv⟩ := hS.slice
      subst htv
      obtain ⟨u0, u1⟩ := hS.tcell
      have R : Hid (Spread nx n f m f3) := Hsp.out.done HI.out hm Hm.out
      have R2 := hS.row
      have R3 := hS.only
      clear hS Hsp Hm
      simp only [List.length_nil] at u0
      go_wp2
      go_end0
      exact ⟨rfl, f3, R2, R.out, R3⟩
    · rw [List.concat_eq_append] at hcat
      have Hcat : Hid _ := hcat
      obtain ⟨g3, c3, htv, hc1, hc2, hg3, hz⟩ := hS.last hcat
      subst htv
      obtain ⟨p, hp, hpn, Hfp⟩ : ∃ p : Nat, z = p ∧ p < n ∧ Hid (f3 p = true) := Hsp.out.td z (by rw [hcat]; exact List.mem_append_right _ (List.mem_singleton.2 rfl))
      subst hp
      have hlen : t.length + 1 ≤ n := by have := Hsp.out.len; rw [hcat] at this; simp at this; omega
      have HG : Hid (G = 2 * cntF f3 n + (t.length + 1)) := by show _ = _; rw [hgk, hcat]; simp
      replace Hsp : Hid (Spr nx n f m f3 t p 0) := by have := Hsp.out; rw [hcat] at this; exact this.pop
      obtain ⟨u0, u1⟩ := hS.tcell
      have hS2 : SprAt w B n w.heap.size (w.heap.size + 1) (wr.setCell ⟨w.heap.size + 1, 0, none⟩ (.slice (some ⟨g3, 0, none⟩) t.length c3)) f3 (.slice (some ⟨g3, 0, none⟩) t.length c3) t := by rw [hcat] at hS; exact hS.pop rfl
      generalize htl : t.length = k3 at *
      have Htl : Hid _ := htl
      unfold maxLen at hc2
      clear htl hcat hgk
      obtain ⟨W, HW⟩ : ∃ W, Hid (wr.setCell ⟨w.heap.size + 1, 0, none⟩ (.slice (some ⟨g3, 0, none⟩) k3 c3) = W) := ⟨_, rfl⟩
      rw [HW.out] at hS2
      go_upto_region 7 with fail
      rw [HW.out]
      clear HW hS u0 u1 hz
      obtain ⟨b1, o1, au, cu, han, hlt1, hne1, c1, hmu, hru⟩ := HN.out p hpn
      subst han
      have hcW : W.cell? ⟨b1, o1 + p, none⟩ = _ := (hS2.only.at hlt1 hne1).trans c1
      obtain ⟨lu, Hlu⟩ : ∃ lu, Hid ((markAt nx p).length = lu) := ⟨_, rfl⟩
      rw [Hlu.out] at hcW hmu
      have Hru : Hid _ := hru
      clear hru c1 hne1 hlt1
      go_wp2_with fail
      clear hcW
      go_loopg [34] lu (fun g i wr => ∃ (k : Nat) (f4 : Nat → Bool) (tv4 : Value) (todo4 : List Int), k + g = lu ∧ i = .int .i64 k ∧ SprAt w B n w.heap.size (w.heap.size + 1) wr f4 tv4 todo4 ∧ Hid (Spr nx n f m f4 todo4 p k) ∧ Hid (f4 m = true ∧ f4 p = true ∧ 2 * cntF f4 n + todo4.length < G))
      case atStart => exact ⟨0, f3, _, t, by omega, rfl, hS2, Hsp, ⟨Hm.out, Hfp.out, by have := HG.out; have := Htl.out; omega⟩⟩
      case round =>
        clear hS2 Hsp Hm Hfp
        obtain ⟨k, f4, tv4, todo4, hkg, rfl, hS, Hsp, H3⟩ := hrel
        by_cases hk : k < lu
        · have Hk : Hid (k < (markAt nx p).length) := by have := Hlu.out; show k < (markAt nx p).length; omega
          obtain ⟨bb, off, rfl, hbb, hne2, hc⟩ := Hru.out k Hk.out
          have hcW : wr.cell? ⟨bb, off + k, none⟩ = _ := (hS.only.at hbb hne2).trans hc
          clear hne2 hbb
          have Hmem : Hid (nth (markAt nx p) k ∈ markAt nx p) := by show _ ∈ _; simp [nth, List.getD, List.getElem?_eq_getElem Hk.out]
          obtain ⟨x, hx⟩ := Int.eq_ofNat_of_zero_le (HI.out p hpn _ Hmem.out).1
          have hxn : x < n := by have := (HI.out p hpn _ Hmem.out).2; omega
          have Hx : Hid _ := hx
          rw [hx] at hcW Hmem
          have Hl4 : Hid (todo4.length + 1 ≤ 17592186044416) := by have := Hsp.out.len; show _ ≤ _; omega
          clear hc hx
          go_wp2_with fail
          refine (come_any hS x hxn Hl4.out).mono ?_
          rintro e w5 ⟨rfl, hcase⟩
          have key : ∃ f5 tv5 todo5, SprAt w B n w.heap.size (w.heap.size + 1) w5 f5 tv5 todo5 ∧ Hid (Spr nx n f m f5 todo5 p (k + 1)) ∧ Hid (f5 m = true ∧ f5 p = true ∧ 2 * cntF f5 n + todo5.length < G) := by
            rcases hcase with ⟨h1, rfl⟩ | ⟨h1, tv', h2⟩
            · refine ⟨_, _, _, hS, Hsp.out.next Hk.out fun b hb => ?_, H3⟩
              rw [Hx.out] at hb
              obtain rfl : b = x := by omega
              exact h1
            · have hg : Goes nx m x := by
                rcases Hsp.out.sound p hpn H3.out.2.1 with q | q
                · have := Hsp.out.grew x (Hf0.out p x hpn q Hmem.out)
                  rw [h1] at this; cases this
                · exact q.go Hmem.out
              refine ⟨_, _, _, h2, (Hsp.out.come hxn h1 hg).next Hk.out fun b hb => ?_, updT_grew H3.out.1, updT_grew H3.out.2.1, ?_⟩
              · rw [Hx.out] at hb
                obtain rfl : b = x := by omega
                exact updT_same _ _
              · have e := cntF_set h1 (updT_same f4 x) (fun j hj => updT_other f4 hj) n hxn
                have := H3.out.2.2
                simp only [List.length_append, List.length_singleton]
                omega
          clear hcase hS Hsp H3 hcW
          obtain ⟨f5, tv5, todo5, hS, Hsp, H3⟩ := key
          go_wp2
          go_roundg (gk - 1)
          case measure => omega
          case rel => exact ⟨k + 1, f5, tv5, todo5, by omega, by go_num, hS, Hsp, H3⟩
        · have R : Hid (Spr nx n f m f4 todo4 n 0) := Hsp.out.ended (by have := Hlu.out; omega)
          have hG : 2 * cntF f4 n + todo4.length < G := H3.out.2.2
          have Hm4 : Hid (f4 m = true) := H3.out.1
          clear Hsp H3
          go_wp2
          go_roundg (2 * cntF f4 n + todo4.length)
          case measure => omega
          case rel => exact ⟨f4, tv4, todo4, rfl, hS, R, Hm4⟩

end Go.Proofs.Ytlejaeecfeiajaa
