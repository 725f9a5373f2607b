/- The answers of the document itself for reach: the way to a mark. -/
import Derived.Test.YtfcgapcdhhliiaaReach2
namespace Go.Proofs.Ytfcgapcdhhliiaa
open Go.RowKit
set_option linter.unusedVariables false

theorem own_lit1 (w : World) (z : Int) : Own w.heap.size w (w.alloc (.cells #[.int .i64 z] 3)) (.slice (some ⟨w.heap.size, 0, none⟩) 1 1) [z] := by
  refine ⟨⟨by simp, .inr ⟨w.heap.size, 1, #[.int .i64 z], rfl, Nat.le_refl _, heap_alloc_new w _, by simp, by unfold maxLen; omega, by simp, by simp⟩⟩, below_new _ _, by simp⟩

/-- append of all of another slice, inside a region that draws its order. -/
theorem wpr_append_ints {o : Oper} {a : Act} {K : Act → World → Prop} {Q : Exit → Act → World → Prop} {Y : Nat → Option Bool} (hwt : Region.wanted o Y = true) (s x : Operand)
    (ho : o.op = .call { callee := .builtin .append, args := #[s, x], argTypes := #[25, 25] }) (B : Nat) (w wr : World) (v u : Value) (zs ys : List Int) (hG : Own B w wr v zs)
    (hs : a.eval s = v) (hx : a.eval x = u) (hu : Ints wr u ys) (hl : zs.length + ys.length ≤ 17592186044416)
    (h : ∀ v' w', Own B w w' v' (zs ++ ys) → K (a.put o.dst v') w') : if Region.wanted o Y = true then Oper.wp Try.prog o a wr K Q else K (a.put o.dst undef) wr := by
  obtain ⟨i0, hi, hz0, hz1, hz2⟩ := info_parts info_int
  obtain ⟨ax, len, cap, rfl, hlen, hmx, hsh, hr⟩ := hu
  have hG0 := hG
  obtain ⟨hown, hb, hB⟩ := hG
  cases ax with
  | none =>
    have hc0 : cap = 0 := hsh.2.2 rfl
    have hl0 : len = 0 := by have := hsh.1; omega
    subst hc0 hl0
    have hy : ys = [] := List.length_eq_zero_iff.1 hlen
    subst hy
    rw [if_pos hwt]
    have hrun := run_append_owned_none (P := Try.prog) (w := wr) B 25 o.type 3 i0 1 Try.underlying25 hi v zs.length _ hown
    have hK := h v wr (by simpa using hG0)
    unfold Oper.wp
    simp [execOp, ho, resolve, invoke, builtin, hs, hx, hrun, Result.andThen]
    exact hK
  | some ad =>
    refine wp_append_at _ hwt s x 25 ho B 3 i0 (.int .i64 0) 1 8 Try.underlying25 hi hz0 hz1 hz2 rfl (by decide) v zs.length _ hs hown ad len cap (ys.map (Value.int .i64)) hx (by simp [hlen]) ?_ ?_ ?_ ?_ hB ?_
    · intro j u hj
      have hjl : j < ys.length := by
        rcases Nat.lt_or_ge j ys.length with h1 | h1
        · exact h1
        · rw [List.getElem?_eq_none (by simpa using h1)] at hj; cases hj
      obtain ⟨b, off, e, hlt, hc⟩ := hr j hjl
      injection e with e
      subst e
      rw [addr_add, hc]
      simp [List.getElem?_eq_getElem hjl] at hj
      subst hj
      simp [nth, List.getD, List.getElem?_eq_getElem hjl]
    · intro u hu
      obtain ⟨z, _, rfl⟩ := List.mem_map.1 hu
      rfl
    · unfold maxLen; omega
    · omega
    · intro v' w' hown' hgrow _
      refine h v' w' ⟨by simpa [hlen] using hown', hb.grown hgrow hB (fun k hk => (hown.lt k hk).1), Nat.le_trans hB hgrow.size⟩

/-- The first that comes to g stands at j. -/
theorem firstTo_at {l : List ArcL} {g j : Nat} (hj : j < l.length) (h : l[j].dst = g) (hn : ∀ i (hi : i < j), l[i].dst ≠ g) : firstTo l g = some l[j] := by
  unfold firstTo
  rw [List.find?_eq_some_iff_getElem]
  exact ⟨by simp [h], j, hj, rfl, fun i hi => by simpa using hn i hi⟩

theorem path_len {n : NetL} {m : List Int} {most k t : Nat} {s : SpaceL} (h : Found n m most k t s) : ∀ g, g < s.marks.length → (pathL s g).length ≤ g := by
  intro g
  induction g using Nat.strongRecOn with
  | ind g ih =>
    intro hg
    by_cases h0 : g = 0
    · subst h0; simp [pathL_zero]
    · obtain ⟨a, h1, h2⟩ := h.par g (by omega) hg
      rw [pathL_step h (by omega) hg h1]
      have := ih a.frm h2 (by omega)
      simp only [List.length_append, List.length_singleton]
      omega

/-- What Path makes of what was explored. -/
def reachOf (p : SpaceL × Int) (goal : List Int) : List Int × Int :=
  if p.2 == 0 then
    match findM p.1.marks goal with
    | some g => (pathL p.1 g, 0)
    | none => ([], 3)
  else ([], p.2)

set_option maxRecDepth 4000 in
set_option maxHeartbeats 8000000 in
theorem dpath_any (v u gv : Value) (n : NetL) (m goal : List Int) (most : Int) (w : World) (hv : Net w v n) (hu : Ints w u m) (hg : Ints w gv goal) (hsm : SmallNet n) :
    Calls Try.prog 10 #[v, u, gv, .int .i64 most] w fun e w' => Gives w (reachL n m goal most) e w' := by
  obtain ⟨tv, rfl, hT⟩ := hv
  have c := below_new w (.cells #[.int .i64 n.places, tv] 24)
  have hv : Net _ (.agg #[.int .i64 n.places, tv]) n := ⟨_, rfl, hT.below c⟩
  replace hu := hu.below c
  replace hg := hg.below c
  clear hT
  go_enter Try.func10, Try.ntmps10
  go_wp2_with fail
  refine (dgraph_any _ _ n m most _ (by exact hv) (by exact hu) hsm).mono ?_
  rintro e w2 ⟨r1, rfl, hr1, b⟩
  replace hg := hg.below b
  replace c := below_then c b
  clear b hv hu
  have HR : Hid (reachL n m goal most = reachOf (graphL n m most) goal) := rfl
  have HF0 : Hid (∀ s, graphL n m most = (s, 0) → ∃ M, M ≤ 300 ∧ Found n m M M 0 s) := fun s h => by
    obtain ⟨h1, h2, _, _, hF⟩ := graphL_ok h
    exact ⟨_, by omega, hF⟩
  generalize graphL n m most = p1 at *
  obtain ⟨s, cd⟩ := p1
  simp only at hr1 ⊢
  obtain ⟨mv, av, rfl, hM, hA⟩ := hr1
  obtain ⟨am, cm, rfl, hlm, hsm2⟩ := hM.slice
  obtain ⟨aa, ca, rfl, hla⟩ := hA.slice
  obtain ⟨lm, Hlm⟩ : ∃ lm, Hid (s.marks.length = lm) := ⟨_, rfl⟩
  obtain ⟨la, Hla⟩ : ∃ la, Hid ((List.map arcZ s.arcs).length = la) := ⟨_, rfl⟩
  rw [Hlm.out] at hM hlm ⊢
  rw [Hla.out] at hA hla ⊢
  have bs := below_new w2 (.cells #[.slice am lm cm, .slice aa la ca] 29)
  have hbs := box2_new w2 (.slice am lm cm) (.slice aa la ca) 29
  obtain ⟨bk, Hbk⟩ : ∃ bk, Hid (w2.heap.size = bk) := ⟨_, rfl⟩
  rw [Hbk.out] at hbs
  obtain ⟨ws, Hws⟩ : ∃ ws, Hid (w2.alloc (.cells #[.slice am lm cm, .slice aa la ca] 29) = ws) := ⟨_, rfl⟩
  rw [Hws.out] at bs hbs
  replace hg := hg.below bs
  replace hM := hM.below bs
  replace hA := hA.below bs
  replace c := below_then c bs
  clear bs hsm2
  obtain ⟨y0, y1, y2⟩ := id hbs
  go_upto_region 2 with fail
  rw [Hws.out, Hbk.out]
  clear Hws Hbk
  by_cases h0 : cd = 0
  case neg =>
    have n1 : (cd != 0) = true := by simpa using h0
    have E : Hid (reachL n m goal most = ([], cd)) := by show _ = _; rw [HR.out, reachOf]; simp [h0]
    clear HR HF0
    go_wp2
    go_ret2
    exact gives_of E.out (Ints.nil _) c
  subst h0
  obtain ⟨MM, hMM, hF⟩ := HF0.out s rfl
  have hml := hF.most_le
  have HF : Hid _ := hF
  have Hnd : Hid _ := hF.nodup
  clear HF0 hF
  rw [Hlm.out] at hml
  go_wp2_with fail
  clear y0 y1 y2
  go_loopg [12, 31] lm (fun g o i wr => ∃ (j : Nat) (zz : Int), j + g = lm ∧ i = .int .i64 j ∧ o = .int .i64 zz ∧ Hid (SeekTo s.marks goal j zz) ∧ Below ws.heap.size ws wr)
  case atStart => exact ⟨0, -1, by omega, rfl, rfl, .inl ⟨rfl, fun i hi => absurd hi (Nat.not_lt_zero _)⟩, Below.refl _ _⟩
  case round =>
    obtain ⟨j, zz, hjg, rfl, rfl, Hsk, hb⟩ := hrel
    by_cases hjn : j < lm
    · obtain ⟨b3', o3, u3, rfl, _, d3, i3⟩ := (hM.below hb).at hjn
      go_wp2_with fail
      refine (equal_b _ _ _ _ _ (by exact hg.below hb) (by exact i3)).mono ?_
      rintro e w6 ⟨rfl, b'⟩
      have R := below_then hb b'
      clear hb b' i3 d3
      cases hy : (goal == markAt s.marks j)
      · have F : Hid (SeekTo s.marks goal (j + 1) zz) := seek_no Hsk.out (fun e => by rw [e] at hy; simp at hy)
        clear hy
        go_wp2
        go_roundg (gk - 1)
        case measure => omega
        case rel => exact ⟨j + 1, zz, by omega, by go_num, rfl, F, R⟩
      · have F : Hid (SeekTo s.marks goal (j + 1) (j : Int)) := seek_yes (by simpa using (beq_iff_eq.1 hy).symm)
        clear hy
        go_wp2
        go_roundg (gk - 1)
        case measure => omega
        case rel => exact ⟨j + 1, (j : Int), by omega, by go_num, rfl, F, R⟩
    · have hjl : j = s.marks.length := by have := Hlm.out; omega
      have Hd : Hid _ := seek_done Hnd.out (hjl ▸ Hsk.out)
      replace hA := hA.below hb
      replace hbs := hbs.below hb
      replace c := below_then c hb
      obtain ⟨wg, hwg⟩ : ∃ wg, wg = wr := ⟨_, rfl⟩
      subst hwg
      clear hjl hM hb Hsk hg
      rcases Hd.out with ⟨rfl, hfn⟩ | ⟨i, hi, rfl, hfs⟩
      · have E : Hid (reachL n m goal most = ([], 3)) := by show _ = _; rw [HR.out, reachOf]; simp [hfn]
        clear HR Hd hfn
        go_wp2
        go_ret2
        exact gives_of E.out (Ints.nil _) c
      · have E : Hid (reachL n m goal most = (pathL s i, 0)) := by show _ = _; rw [HR.out, reachOf]; simp [hfs]
        have hi0 : ¬ ((i : Int) < 0) := by omega
        have Hpl : Hid _ := path_len HF.out
        rw [Hlm.out] at hi
        clear HR Hd hfs
        go_wp2_with fail
        go_loopg [12, 15] i (fun g at' o wr => ∃ (ys : List Int), at' = .int .i64 (g : Int) ∧ g < lm ∧ Ints wr o ys ∧ Hid (pathL s i = pathL s g ++ ys) ∧ Below wg.heap.size wg wr)
        case atStart => exact ⟨[], rfl, hi, Ints.nil _, by simp [Hid], Below.refl _ _⟩
        case round =>
          obtain ⟨ys, rfl, hgl, hys, Hpa, hb⟩ := hrel
          obtain ⟨G, hGk⟩ : ∃ G, G = gk := ⟨_, rfl⟩
          obtain ⟨WR, hWRk⟩ : ∃ WR, WR = wr := ⟨_, rfl⟩
          obtain ⟨ov, hov⟩ : ∃ ov, ov = u15 := ⟨_, rfl⟩
          subst hGk hWRk hov
          by_cases hg0 : G = 0
          · subst hg0
            have e0 : ((((0 : Nat) : Int)) != 0) = false := rfl
            have F : Hid (pathL s i = ys) := by show _ = _; rw [Hpa.out, pathL_zero]; rfl
            have R := below_then c hb
            go_wp2
            go_ret2
            exact gives_of E.out (by rw [F.out]; exact hys) R
          · have e0 : (((G : Nat) : Int) != 0) = true := by simp; omega
            have hF : Found n m MM MM 0 s := HF.out
            obtain ⟨pa, hpa, hpl⟩ := hF.par G (by omega) (by have := Hlm.out; omega)
            have Hst : Hid _ := pathL_step hF (show 0 < G by omega) (by have := Hlm.out; omega) hpa
            have Hpar : Hid _ := hpa
            obtain ⟨y0, y1, y2⟩ := hbs.below hb
            have hyl : ys.length ≤ 300 := by
              have h1 := path_len hF i (by have := Hlm.out; omega)
              have h2 := congrArg List.length Hpa.out
              rw [List.length_append] at h2
              omega
            clear hF hpa
            go_wp2_with fail
            clear y0 y1 y2
            go_loopg [12, 15, 48] la (fun g at' o jv wr => ∃ (j : Nat), j + g = la ∧ jv = .int .i64 j ∧ at' = .int .i64 (G : Int) ∧ o = ov ∧ Hid (∀ q (hq : q < s.arcs.length), q < j → s.arcs[q].dst ≠ G) ∧ Below WR.heap.size WR wr)
            case atStart => exact ⟨0, by omega, rfl, rfl, rfl, fun q _ hq => absurd hq (Nat.not_lt_zero _), Below.refl _ _⟩
            case round =>
              obtain ⟨j, hjg, rfl, rfl, rfl, Hno, hb2⟩ := hrel
              by_cases hjn : j < la
              · have hjl : j < (List.map arcZ s.arcs).length := by have := Hla.out; omega
                have hjs : j < s.arcs.length := by simpa using hjl
                obtain ⟨ba, oa, rfl, _, c0, c1, c2⟩ := ((hA.below hb).below hb2).at hjl
                have ea : (List.map arcZ s.arcs)[j] = ((s.arcs[j].frm : Int), (s.arcs[j].tran : Int), (s.arcs[j].dst : Int)) := by rw [List.getElem_map]; rfl
                rw [ea] at c0 c1 c2
                simp only at c0 c1 c2
                have Hfi : Hid (s.arcs[j].dst = G → firstTo s.arcs G = some s.arcs[j]) := fun h => firstTo_at hjs h fun q hq => Hno.out q (by omega) hq
                have Hne : Hid (s.arcs[j].dst ≠ G → ∀ q (hq : q < s.arcs.length), q < j + 1 → s.arcs[q].dst ≠ G) := fun h q hq hlt => by
                  by_cases e : q = j
                  · subst e; exact h
                  · exact Hno.out q hq (by omega)
                clear ea hjl Hno
                generalize s.arcs[j] = ar at *
                have b1 := below_new wr (.cells #[.int .i64 (ar.frm : Int), .int .i64 (ar.tran : Int), .int .i64 (ar.dst : Int)] 44)
                have hx3 := box3_new wr (.int .i64 (ar.frm : Int)) (.int .i64 (ar.tran : Int)) (.int .i64 (ar.dst : Int)) 44
                obtain ⟨wt, Hwt⟩ : ∃ wt, Hid (wr.alloc (.cells #[.int .i64 (ar.frm : Int), .int .i64 (ar.tran : Int), .int .i64 (ar.dst : Int)] 44) = wt) := ⟨_, rfl⟩
                obtain ⟨bt, Hbt⟩ : ∃ bt, Hid (wr.heap.size = bt) := ⟨_, rfl⟩
                rw [Hwt.out] at b1
                rw [Hwt.out, Hbt.out] at hx3
                have hbt := below_then hb2 b1
                obtain ⟨z0, z1, z2, z3⟩ := id hx3
                go_upto_region 18 with fail
                rw [Hwt.out, Hbt.out]
                clear Hwt Hbt c0 c1 c2 hb2 b1
                by_cases hd : ar.dst = G
                · have ed : (((ar.dst : Nat) : Int) == (G : Int)) = true := by simp [hd]
                  have hfi := Hfi.out hd
                  have ep : pa = ar := by have := Hpar.out; rw [hfi] at this; injection this with this; exact this.symm
                  subst ep
                  have hnb := below_new wt (.cells #[.int .i64 (pa.tran : Int)] 3)
                  have hys2 := ((hys.below hbt).below hnb).drewN 1
                  have HR2 : Hid (pathL s i = pathL s pa.frm ++ ((pa.tran : Int) :: ys)) := by show _ = _; rw [Hpa.out, Hst.out]; simp
                  have hOl := (own_lit1 wt (pa.tran : Int)).trans (below_drewN (Below.refl _ _) 1)
                  clear Hfi Hne hfi
                  have hyl2 : [(pa.tran : Int)].length + ys.length ≤ 17592186044416 := by simp; omega
                  go_wp2_with fail
                  go_region_held3 (fun w' => w'.cell? ⟨bt, 0, none⟩ = some (.int .i64 (pa.frm : Int)) ∧ w'.cell? ⟨bt, 1, none⟩ = some (.int .i64 (pa.tran : Int)))
                    (go_keep)
                    (first
                      | (refine wpr_append_ints rfl _ _ rfl wt.heap.size wt _ _ u15 [(pa.tran : Int)] ys hOl rfl rfl hys2 hyl2 ?_; intro v' w7 hO7; have k1 := (hO7.2.1.cell (p := ⟨bt, 0, none⟩) z0).trans z1; have k2 := (hO7.2.1.cell (p := ⟨bt, 1, none⟩) z0).trans z2))
                  have R7 : Below wg.heap.size wg w7 := below_then hb (below_then hbt hO7.2.1)
                  have hI7 : Ints w7 v' ((pa.tran : Int) :: ys) := hO7.ints (by simp; omega)
                  have hgl2 : pa.frm < lm := by omega
                  clear k1 k2 hO7 hOl hys2 hnb hbt hb hx3 z0 z1 z2 z3
                  go_wp2
                  go_roundg pa.frm
                  case measure => omega
                  case rel => exact ⟨_, rfl, hgl2, hI7, HR2, R7⟩
                · have ed : (((ar.dst : Nat) : Int) == (G : Int)) = false := by simp; omega
                  have F : Hid _ := Hne.out hd
                  clear Hfi Hne hx3 z0 z1 z2
                  go_wp2
                  go_roundg (gk - 1)
                  case measure => omega
                  case rel => exact ⟨j + 1, by omega, by go_num, rfl, rfl, F, hbt⟩
              · exfalso
                have h1 := (firstTo_mem Hpar.out)
                obtain ⟨q, hq, e⟩ := List.getElem_of_mem h1.1
                have hqj : q < j := by have := Hla.out; simp only [List.length_map] at this; omega
                exact Hno.out q hq hqj (by rw [e]; exact h1.2)

end Go.Proofs.Ytfcgapcdhhliiaa
