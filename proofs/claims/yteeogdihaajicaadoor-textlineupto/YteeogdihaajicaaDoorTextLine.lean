/- TextLine: what is ahead of a wrong line is right. -/
import Derived.Test.YteeogdihaajicaaDoorTextOnly
import Derived.Lib.SplitLaws
namespace Go.Proofs.YteeogdihaajicaaDoor
open Go.RowKit
set_option linter.unusedVariables false
set_option linter.unusedSimpArgs false
set_option maxRecDepth 4000

theorem index_at {a r : Bytes} {c : UInt8} (h : c ∉ a) : Lib.index (a ++ c :: r) [c] = (a.length : Int) := by
  refine Lib.index_first (by simp) ?_ fun j hj => ?_
  · unfold Lib.occAt
    simp [List.isPrefixOf]
  · unfold Lib.occAt
    rw [Bool.eq_false_iff]
    intro q
    obtain ⟨z, hz⟩ := List.isPrefixOf_iff_prefix.1 q
    have e1 : (a ++ c :: r)[j]? = some c := by
      have : ((a ++ c :: r).drop j)[0]? = some c := by rw [← hz]; rfl
      rwa [List.getElem?_drop] at this
    rw [List.getElem?_append_left hj] at e1
    exact h (List.mem_of_getElem? e1)
theorem split_line {a r : Bytes} (h : (10 : UInt8) ∉ a) (K : Nat) : Lib.splitK [10] 1 (K + 1) (a ++ 10 :: r) = (a ++ [10]) :: Lib.splitK [10] 1 K r := by
  conv => lhs; unfold Lib.splitK
  rw [index_at h, if_neg (by intro q; have := beq_iff_eq.1 q; omega)]
  have e : ((a.length : Int)).toNat = a.length := by omega
  rw [e]
  congr 1
  · have : a ++ 10 :: r = (a ++ [10]) ++ r := by simp
    rw [this, List.take_left' (by simp)]
  · have : a ++ 10 :: r = (a ++ [10]) ++ r := by simp
    rw [this, List.drop_left' (by simp)]
theorem split_lines : ∀ (ts : List TranL) (R : Bytes) (K : Nat), (∀ t ∈ ts, (10 : UInt8) ∉ lineT t) → ts.length ≤ K → ((Lib.splitK [10] 1 K (linesT ts ++ R)).take ts.length).flatten = linesT ts
  | [], R, K, _, _ => by simp [linesT]
  | t :: ts, R, 0, _, h => by simp at h
  | t :: ts, R, K + 1, h, hl => by
    have e : linesT (t :: ts) ++ R = lineT t ++ 10 :: (linesT ts ++ R) := by simp [linesT]
    rw [e, split_line (h t (by simp)), List.length_cons, List.take_succ_cons, List.flatten_cons, split_lines ts R K (fun x hx => h x (by simp [hx])) (by simpa using hl)]
    simp [linesT]
theorem Lines.cut {s R : Bytes} {P : Nat} {ts : List TranL} (h : Lines s P ts R) {K : Nat} (hK : ts.length + 1 ≤ K) : ((Lib.splitK [10] 1 K s).take (ts.length + 1)).flatten = firstT P ++ 10 :: linesT ts := by
  obtain ⟨K, rfl⟩ : ∃ k, K = k + 1 := ⟨K - 1, by omega⟩
  rw [h.at_, split_line (first_no10 (by omega)), List.take_succ_cons, List.flatten_cons, split_lines ts R K (fun t ht => line_no10 (h.ok t ht)) (by omega)]
  simp
theorem join_nil (l : List Bytes) : Lib.join l [] = l.flatten := by
  unfold Lib.join
  induction l with
  | nil => rfl
  | cons a l ih =>
    cases l with
    | nil => simp [List.intercalate]
    | cons b l =>
      simp only [List.intercalate, List.intersperse] at ih ⊢
      simp at ih ⊢
      exact ih

theorem splitAfter_any (a : Bytes) (t : ByteArray) (w : World) (h : bs [10] = t) (hv : VarM w) (ha : a.length < 4294967281) :
    Calls Tryd.prog 15 #[.string (bs a), .string t] w fun e w' => ∃ L : List ByteArray, e = .returned (.slice (some ⟨w.heap.size, 0, none⟩) L.length L.length) ∧ w' = w.alloc (.cells (Lib.cellsOf L L.length) 9) ∧
      Hid (L.map (·.data.toList) = Lib.splitK [10] 1 (a.count 10) a) ∧ Hid (L.length = a.count 10 + 1) := by
  subst h
  obtain ⟨_, m, hm⟩ := hv
  have hc : Lib.countB (bs a) (bs [10]) = a.count 10 := Lib.count_one 10 a
  have hle : a.count 10 ≤ a.length := List.count_le_length
  have hlen : (Lib.splitB (bs [10]) 1 (a.count 10) (bs a)).length = a.count 10 + 1 := Lib.splitB_all (bs [10]) (by decide) 1 _ _ hc
  have hG := Any.strings_genSplit (ρ := lays221_ren) lays221 (by kernel_rfl) (bs a) (bs [10]) 1 (-1) (a.count 10 + 1) m w (by rw [bs_size]; exact ha) hm (by decide) (by decide) (by omega) (by omega) (by rw [if_pos (by omega), hc, bs_size]; omega)
  rw [show a.count 10 + 1 - 1 = a.count 10 by omega] at hG
  have hD : (Lib.splitB (bs [10]) 1 (a.count 10) (bs a)).map (·.data.toList) = Lib.splitK [10] 1 (a.count 10) a := Lib.splitB_data (bs [10]) 1 (a.count 10) (bs a)
  obtain ⟨L, HL⟩ : ∃ L, Hid (Lib.splitB (bs [10]) 1 (a.count 10) (bs a) = L) := ⟨_, rfl⟩
  rw [HL.out] at hG hD hlen
  rw [← hlen] at hG
  have HD : Hid (L.map (·.data.toList) = Lib.splitK [10] 1 (a.count 10) a) := hD
  have HLen : Hid (L.length = a.count 10 + 1) := hlen
  obtain ⟨sp, Hsp⟩ : ∃ z, Hid (bs [10] = z) := ⟨_, rfl⟩
  have hsz : sp.size = 1 := by rw [← Hsp.out]; rfl
  rw [Hsp.out] at hG
  rw [Hsp.out]
  clear hc hle hlen hD hm
  go_enter Tryd.func15, Tryd.ntmps15
  go_wp2_with (go_at_call 35; refine hG.mono ?_; rintro e w' ⟨rfl, rfl⟩)
  go_ret
  exact ⟨L, rfl, rfl, HD, HLen⟩

theorem join_any (bk c : Nat) (xs : List ByteArray) (t : ByteArray) (w : World) (h : bs [] = t) (hcells : ∀ (j : Nat) x, xs[j]? = some x → w.cell? ⟨bk, j, none⟩ = some (.string x)) (hbk : bk < w.heap.size) (hN : xs.length ≤ 140737488355328) (hcap : xs.length ≤ c)
    (hlen : (xs.map (·.data.toList)).flatten.length ≤ 140737488355328) :
    Calls Tryd.prog 16 #[.slice (some ⟨bk, 0, none⟩) xs.length c, .string t] w fun e w' => e = .returned (.string (bs (xs.map (·.data.toList)).flatten)) ∧ Below w.heap.size w w' := by
  subst h
  have hJ := Any.strings_Join (ρ := lays156_ren) lays156 Builder_Extra_156 bk 0 c xs (bs []) w (fun j x hj => by rw [Nat.zero_add]; exact hcells j x hj) hbk hN hcap (by rw [show (bs []).data.toList = [] from rfl, join_nil]; exact hlen)
  rw [show (bs []).data.toList = [] from rfl, join_nil] at hJ
  exact hJ
theorem cells_full {w : World} {L : List ByteArray} {j : Nat} {x : ByteArray} (h : L[j]? = some x) : (w.alloc (.cells (Lib.cellsOf L L.length) 9)).cell? ⟨w.heap.size, j, none⟩ = some (.string x) := by
  rw [World.cell?_alloc_at _ _ _ _ rfl, Lib.cellsOf_full]
  simp [h]

set_option maxHeartbeats 4000000 in
theorem textLine_walk (x0 : Bytes) (W : World) (hs : x0.length ≤ 1048576) (hv : VarM W) :
    Calls Tryd.prog 6 #[.string (bs x0)] W fun e W' => e = .returned (.bool true) ∧ Below W.heap.size W W' := by
  go_enter Tryd.func6, Tryd.ntmps6
  go_upto_region 3 with (go_at_call 12; refine (alive15_any _ hv).mono ?_; rintro e w1 ⟨rfl, b1⟩)
  go_upto_region 4 with (go_at_call 9; refine (parse_any x0 _ (hv.below b1) (by omega)).mono ?_; rintro e w3 ⟨⟨u, m, k, f, rfl, hN, hQ⟩, b3⟩; obtain ⟨uv, rfl, hU⟩ := id hN; obtain ⟨ua, ul, uc, rfl, hul, _⟩ := id hU)
  have c3 := below_then b1 b3
  have bA := below_new w3 (.cells #[.int .i64 m.places, .slice ua ul uc] 24)
  obtain ⟨w4, H4⟩ : ∃ u, Hid (w3.alloc (.cells #[.int .i64 m.places, .slice ua ul uc] 24) = u) := ⟨_, rfl⟩
  rw [H4.out] at bA
  rw [H4.out]
  have c4 := below_then c3 bA
  clear hU hN bA H4 b3 hul
  rcases hQ with ⟨rfl, rfl, h1, h2⟩ | ⟨rfl, h2, h3⟩
  · clear h1 h2
    go_wp2
    go_ret
    exact ⟨rfl, c4⟩
  · have hrng := h3.range
    rcases h3 with ⟨rfl, _⟩ | ⟨P, ts, R, hL, rfl, _, _⟩
    · clear h2 hrng
      go_wp2
      go_ret
      exact ⟨rfl, c4⟩
    · have HL : Hid (Lines x0 P ts R) := hL
      have hP16 := hL.le
      have h24 := hL.many
      obtain ⟨q, Hq⟩ : ∃ z, Hid (ts.length = z) := ⟨_, rfl⟩
      rw [Hq.out] at hrng h24
      rw [Hq.out]
      have n0 : (((q : Int) + 1) == 0) = false := by rw [beq_eq_false_iff_ne]; omega
      have hS := splitAfter_any x0 ⟨#[10]⟩ w4 rfl (hv.below c4) (by omega)
      clear hL h2
      go_upto_region 7 with (go_at_call 15; refine hS.mono ?_; rintro e w5 ⟨L, rfl, rfl, HD, HLl⟩)
      clear hS
      have hLl := HLl.out
      have hqL : q + 1 < L.length := by omega
      clear hLl
      have HC : Hid (((L.take (q + 1)).map (·.data.toList)).flatten = firstT P ++ 10 :: linesT ts) := by
        show _ = _
        rw [List.map_take, HD.out, ← Hq.out]
        exact HL.out.cut (by have := Hq.out; omega)
      have bA := below_new w4 (.cells (Lib.cellsOf L L.length) 9)
      have hcl : ∀ (j : Nat) x, (L.take (q + 1))[j]? = some x → (w4.alloc (.cells (Lib.cellsOf L L.length) 9)).cell? ⟨w4.heap.size, j, none⟩ = some (.string x) := fun j x hj => cells_full (by
        rw [List.getElem?_take] at hj
        split at hj
        · exact hj
        · cases hj)
      have hlt : w4.heap.size < (w4.alloc (.cells (Lib.cellsOf L L.length) 9)).heap.size := by simp
      have HL2 : Hid (Lines (firstT P ++ 10 :: linesT ts) P ts []) := ⟨hP16, HL.out.ok, HL.out.many, by simp⟩
      have hxl : (firstT P ++ 10 :: linesT ts).length ≤ x0.length := by
        have := congrArg List.length HL.out.at_
        simp at this ⊢
        omega
      obtain ⟨w6, H6⟩ : ∃ u, Hid (w4.alloc (.cells (Lib.cellsOf L L.length) 9) = u) := ⟨_, rfl⟩
      obtain ⟨B, HB⟩ : ∃ z, Hid (w4.heap.size = z) := ⟨_, rfl⟩
      rw [H6.out] at bA
      rw [H6.out, HB.out] at hcl
      rw [H6.out, HB.out] at hlt
      rw [H6.out, HB.out]
      have c6 := below_then c4 bA
      obtain ⟨T, HT⟩ := hideEx (firstT P ++ 10 :: linesT ts)
      rw [HT.out] at HC HL2 hxl
      obtain ⟨xs, Hxs⟩ : ∃ z, Hid (L.take (q + 1) = z) := ⟨_, rfl⟩
      have hxsl : xs.length = q + 1 := by rw [← Hxs.out, List.length_take]; omega
      rw [Hxs.out] at HC hcl
      obtain ⟨ll, Hll⟩ : ∃ z, Hid (L.length = z) := ⟨_, rfl⟩
      rw [Hll.out] at hqL ⊢
      have hll : ll ≤ 1048577 := by have h1 := HLl.out; have h2 : x0.count 10 ≤ x0.length := List.count_le_length; have h3 := Hll.out; omega
      have hJ := join_any B ll xs ⟨#[]⟩ w6 rfl hcl hlt (by omega) (by omega) (by rw [HC.out]; omega)
      rw [HC.out, hxsl] at hJ
      have hPz := fun w' (hb : Below w6.heap.size w6 w') => parse_any T w' ((hv.below c6).below hb) (by omega)
      clear hcl hxsl HD HLl hrng HL H6 Hxs HC bA hlt
      have n1 : decide ((q : Int) + 1 ≥ (ll : Int)) = false := by rw [decide_eq_false_iff_not]; omega
      have n2 : ((q : Int) + 1).toNat = q + 1 := by omega
      have n3 : (q : Int) + 1 ≤ (ll : Int) := by omega
      have n4 : (0 : Int) ≤ (q : Int) + 1 := by omega
      go_upto_region 10 with (first
        | (go_at_call 16; refine hJ.mono ?_; rintro e w7 ⟨rfl, b7⟩)
        | (go_at_call 9; refine (hPz _ b7).mono ?_; rintro e w8 ⟨⟨u2, m2, k2, f2, rfl, hN2, hQ2⟩, b8⟩; obtain ⟨uv2, rfl, hU2⟩ := id hN2; obtain ⟨ua2, ul2, uc2, rfl, hul2, _⟩ := id hU2))
      have HN2 : Hid (netOk ⟨P, ts⟩ = true ∧ T = textT ⟨P, ts⟩) := HL2.out.net
      obtain ⟨e1, e2, e3⟩ := hQ2.one (.inl ⟨rfl, rfl, HN2.out.1, HN2.out.2⟩)
      subst e1 e2 e3
      have hql : ul2 = q := by have h1 : ts.length = ul2 := hul2; have h2 := Hq.out; omega
      subst hql
      have c8 := below_then c6 (below_then b7 b8)
      have bA := below_new w8 (.cells #[.int .i64 (P : Int), .slice ua2 ul2 uc2] 24)
      have hby := box2_new w8 (.int .i64 (P : Int)) (.slice ua2 ul2 uc2) 24
      obtain ⟨w9, H9⟩ : ∃ u, Hid (w8.alloc (.cells #[.int .i64 (P : Int), .slice ua2 ul2 uc2] 24) = u) := ⟨_, rfl⟩
      obtain ⟨Y, HY⟩ : ∃ z, Hid (w8.heap.size = z) := ⟨_, rfl⟩
      rw [H9.out, HY.out] at hby
      rw [H9.out] at bA
      rw [H9.out, HY.out]
      have c9 := below_then c8 bA
      obtain ⟨_, z0, z1⟩ := id hby
      have wq : IntKind.i64.wrap ((ul2 : Int) + 1 - 1) = (ul2 : Int) := by rw [show ((ul2 : Int) + 1 - 1) = (ul2 : Int) by omega]; exact Go.IntWalk.i64_in _ ⟨by omega, by omega⟩
      clear hQ2 hN2 hU2 hul2 bA hJ hPz b7 b8 n2 n3 n4 n1 n0
      go_wp2
      go_ret
      exact ⟨rfl, c9⟩

end Go.Proofs.YteeogdihaajicaaDoor
