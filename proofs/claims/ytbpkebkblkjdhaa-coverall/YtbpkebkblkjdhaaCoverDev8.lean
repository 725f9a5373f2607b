/- Package cover as it landed: the tree. -/
import Derived.Test.YtbpkebkblkjdhaaCoverDev3
import Derived.Test.YtbpkebkblkjdhaaCoverDev7
import Derived.Test.YtbpkebkblkjdhaaNetDev
namespace Go.Proofs.Ytbpkebkblkjdhaa
open Go.RowKit
set_option linter.unusedVariables false

/-- A run of nothing: it copies. -/
def GivesN (w : World) (b : Bool) (m : List Int) (e : Ending) (w' : World) : Prop :=
  (b = true ∧ ∃ r, e = .returned (.tuple #[r, .int .i64 0]) ∧ Own w.heap.size w w' r m) ∨ (b = false ∧ e = .returned (.tuple #[.slice none 0 0, .int .i64 2]) ∧ Below w.heap.size w w')

set_option maxHeartbeats 1000000 in
theorem net_run_nil (n : NetL) (v u : Value) (m : List Int) (w : World) (hv : Net w v n) (hu : Ints w u m) :
    Calls Try.prog 14 #[v, u, .slice none 0 0] w fun e w' => GivesN w (fitsL n m) m e w' := by
  obtain ⟨tv, rfl, hT⟩ := hv
  have b1 := below_new w (.cells #[.int .i64 n.places, tv] 24)
  have hbx := box2_new w (.int .i64 n.places) tv 24
  replace hu := hu.below b1
  have hv : Net _ (.agg #[.int .i64 n.places, tv]) n := ⟨tv, rfl, hT.below b1⟩
  clear hT
  go_enter Try.func14, Try.ntmps14
  go_wp2_with fail
  refine (marks_any _ _ n m _ (by exact hv) (by exact hu)).mono ?_
  rintro e w1 ⟨rfl, b2⟩
  replace hu := hu.below b2
  replace b1 := below_then b1 b2
  clear b2 hbx hv
  cases hf : fitsL n m
  · have Hf : Hid _ := hf
    clear hf
    go_wp2
    go_ret2
    exact .inr ⟨Hf.out, rfl, b1⟩
  · have Hf : Hid _ := hf
    go_wp2_with fail
    refine (clone_any _ m _ hu).mono ?_
    rintro e w2 ⟨r, rfl, hO⟩
    have R : Own w.heap.size w w2 r m := by
      obtain ⟨q1, q2, q3⟩ := hO
      have s1 := b1.size
      refine ⟨⟨q1.1, ?_⟩, b1.trans (q2.mono s1), by omega⟩
      rcases q1.2 with h | ⟨g', cap', cur, z1, z2, z3⟩
      · exact .inl h
      · exact .inr ⟨g', cap', cur, z1, by omega, z3⟩
    clear hO hu hf
    go_wp2_with fail
    go_loop [8, 21] (fun o i => o = r ∧ i = .int .i64 0) (fun _ _ => 0)
    case atStart => exact ⟨rfl, rfl⟩
    case round =>
      obtain ⟨rfl, rfl⟩ := hrel
      go_wp2
      go_ret2
      exact .inl ⟨Hf.out, _, rfl, R⟩

theorem tree_rest {n : NetL} {m : List Int} {b k : Nat} {s : List KnotX} (e : treeTo n m b k = some s) (hk : s.length ≤ k) : ∀ j, treeTo n m b (k + j) = some s := by
  intro j
  induction j with
  | zero => exact e
  | succ j ih => rw [← Nat.add_assoc, treeTo, ih]; simp only [Option.bind_some]; rw [if_neg (by omega)]

theorem tree_noneC {n : NetL} {m : List Int} {b k : Nat} (e : treeTo n m b k = none) : ∀ j, treeTo n m b (k + j) = none := by
  intro j
  induction j with
  | zero => exact e
  | succ j ih => rw [← Nat.add_assoc, treeTo, ih]; rfl

/-- The tree at its start. -/
theorem treeW_start {W w2 : World} {r : Value} {m : List Int} {M : Int} (hO : Own W.heap.size W w2 r m) (h16 : m.length ≤ 16) :
    ∃ w3, Hid ((w2.alloc (.cells #[.int .i64 (-1), .int .i64 (-1), r] 39)).alloc (.cells #[.int .i64 M, .slice (some ⟨w2.heap.size, 0, none⟩) 1 1] 56) = w3) ∧ TreeW (w2.heap.size + 1) M W w3 [rootK m] (.slice (some ⟨w2.heap.size, 0, none⟩) 1 1) [r] := by
  have b1 := below_new w2 (.cells #[.int .i64 (-1), .int .i64 (-1), r] 39)
  have b2 := below_new (w2.alloc (.cells #[.int .i64 (-1), .int .i64 (-1), r] 39)) (.cells #[.int .i64 M, .slice (some ⟨w2.heap.size, 0, none⟩) 1 1] 56)
  have b3 := below_then b1 b2
  have hs := hO.2.2
  have h1 := heap_alloc_at (w2.alloc (.cells #[.int .i64 (-1), .int .i64 (-1), r] 39)) (.cells #[.int .i64 M, .slice (some ⟨w2.heap.size, 0, none⟩) 1 1] 56)
  simp only [World.size_alloc] at h1
  have h2 : ((w2.alloc (.cells #[.int .i64 (-1), .int .i64 (-1), r] 39)).alloc (.cells #[.int .i64 M, .slice (some ⟨w2.heap.size, 0, none⟩) 1 1] 56)).heap[w2.heap.size]? = some (.cells #[.int .i64 (-1), .int .i64 (-1), r] 39 (0, 0)) := by
    rw [b2.block w2.heap.size (by simp), heap_alloc_at]
  refine ⟨_, rfl, ⟨hO.2.1.trans (b3.mono hs), by omega, by simp, h1, ⟨rfl, .inr ⟨w2.heap.size, 1, _, rfl, hs, h2, Nat.le_refl _, by unfold maxLen; omega, rfl, rfl⟩⟩, by simp [Value.ownBlock], rfl, fun j hj => ?_, fun j hj b hb => ?_⟩⟩
  · obtain rfl : j = 0 := by simpa using hj
    exact ⟨h16, ((ownsRow_on hO.1).below b3).now⟩
  · obtain rfl : j = 0 := by simpa using hj
    have hb' : r.ownBlock = some b := hb
    have := ownsRow_lt hO.1 hb'
    refine ⟨by omega, ?_, fun i hi hne => ?_⟩
    · intro e
      have e' : w2.heap.size = b := by simpa [Value.ownBlock] using e
      omega
    · simp at hi; omega

/-- What Tree answers, and where it lies. -/
def CoreT (w : World) (p : List KnotL × Int) (e : Ending) (w' : World) : Prop :=
  ∃ r, e = .returned (.tuple #[r, .int .i64 p.2]) ∧ Below w.heap.size w w' ∧
    ((p.1 = [] ∧ r = .slice none 0 0) ∨ ∃ (s : List KnotX) (ms : List Value) (x : Nat) (M : Int) (W : World), p.1 = s.map KnotX.knot ∧ s.length ≤ 300 ∧ w.heap.size ≤ W.heap.size ∧ TreeW x M W w' s r ms)
theorem coreT_no {w w' : World} {p : List KnotL × Int} {c : Int} (hp : p = ([], c)) (hb : Below w.heap.size w w') : CoreT w p (.returned (.tuple #[.slice none 0 0, .int .i64 c])) w' := by
  subst hp; exact ⟨_, rfl, hb, .inl ⟨rfl, rfl⟩⟩

set_option maxRecDepth 4000 in
set_option maxHeartbeats 4000000 in
theorem tree_core (v u : Value) (n : NetL) (m : List Int) (most : Int) (w : World) (hv : Net w v n) (hu : Ints w u m) :
    Calls Try.prog 8 #[v, u, .int .i64 most] w fun e w' => CoreT w (treeL n m most) e w' := by
  obtain ⟨tv, rfl, hT⟩ := hv
  have b1 := below_new w (.cells #[.int .i64 n.places, tv] 24)
  have hbx := box2_new w (.int .i64 n.places) tv 24
  obtain ⟨w1, Hw1⟩ : ∃ w1, Hid (w.alloc (.cells #[.int .i64 n.places, tv] 24) = w1) := ⟨_, rfl⟩
  rw [Hw1.out] at b1 hbx
  replace hu := hu.below b1
  have hv : Net w1 (.agg #[.int .i64 n.places, tv]) n := ⟨tv, rfl, hT.below b1⟩
  clear hT
  go_enter Try.func8, Try.ntmps8
  go_upto_region 1 with fail
  rw [Hw1.out]
  clear Hw1
  by_cases hm1 : 1 ≤ most
  case neg =>
    have E : Hid (treeL n m most = ([], 2)) := by show _ = _; rw [treeL, graphOk, decide_eq_false (by omega)]; rfl
    go_wp2
    go_ret2
    exact coreT_no E.out b1
  by_cases hm2 : most ≤ 300
  case neg =>
    have E : Hid (treeL n m most = ([], 2)) := by show _ = _; rw [treeL, graphOk, decide_eq_false (show ¬ most ≤ 300 by omega)]; simp
    go_wp2
    go_ret2
    exact coreT_no E.out b1
  obtain ⟨x0, x1, x2⟩ := id hbx
  go_wp2_with fail
  refine (net_run_nil n _ _ m _ (by exact hv) (by exact hu)).mono ?_
  rintro e w2 (⟨hf, r, rfl, hO⟩ | ⟨hf, rfl, b2⟩)
  · obtain ⟨M, rfl⟩ := Int.eq_ofNat_of_zero_le (show 0 ≤ most by omega)
    have HG : Hid (∀ o, treeTo n m M M = o → treeL n m M = match o with | some s => (s.map KnotX.knot, 0) | none => ([], 4)) := by
      intro o ho
      have hok : graphOk n m M = true := by simp only [graphOk, Bool.and_eq_true, decide_eq_true_eq]; exact ⟨⟨by omega, by omega⟩, hf⟩
      rw [treeL, hok]
      simp only [if_true, Int.toNat_natCast]
      rw [ho]
      cases o <;> rfl
    have HFd : Hid (∀ k s, treeTo n m M k = some s → Grown n m M k 0 s) := fun k s h => treeTo_grown (by omega) k h
    have HF : Hid (fitsL n m = true) := hf
    have hM1 : 1 ≤ M := by omega
    have hM3 : M ≤ 300 := by omega
    have h16 : m.length ≤ 16 := by have h1 := (fits_placesC hf).2; have h2 := (fits_net hf).2.1; omega
    obtain ⟨ar, lr, cr, rfl⟩ := ownsRow_slice hO.1
    obtain ⟨w3, Hw3, hS⟩ := treeW_start (M := (M : Int)) hO h16
    obtain ⟨X, HX⟩ : ∃ X, Hid (w2.heap.size + 1 = X) := ⟨_, rfl⟩
    rw [HX.out] at hS
    clear hO hf hm1 hm2 x0 x1 x2
    go_wp2_with fail
    rw [Hw3.out, HX.out]
    clear Hw3 HX
    go_loopg [11] M (fun gk i wr => ∃ (k : Nat) (s : List KnotX) (kv : Value) (ms : List Value), k + gk = M ∧ i = .int .i64 k ∧ TreeW X M w1 wr s kv ms ∧ Hid (treeTo n m M k = some s))
    case atStart => exact ⟨0, _, _, _, by omega, rfl, hS, rfl⟩
    case round =>
      clear hS
      obtain ⟨k, s, kv, ms, hkg, rfl, hS, Hgr⟩ := hrel
      obtain ⟨G, hGk⟩ : ∃ G, G = gk := ⟨_, rfl⟩
      obtain ⟨WR, hWRk⟩ : ∃ WR, WR = wr := ⟨_, rfl⟩
      subst hGk hWRk
      have hGr : Grown n m M k 0 s := HFd.out k s Hgr.out
      have hml : s.length ≤ M := hGr.most_le
      obtain ⟨ls, Hls⟩ : ∃ ls, Hid (s.length = ls) := ⟨_, rfl⟩
      rw [Hls.out] at hml
      obtain ⟨d0, d1, df⟩ := hS.at
      obtain ⟨ak, ck, hkv⟩ := hS.slice
      rw [hkv, Hls.out] at d1
      by_cases hkl : k < ls
      · have hks : k < s.length := by have := Hls.out; omega
        have Hyes : Hid (seenK (knotAt s k) = true → treeTo n m M (k + 1) = some s) := by
          intro h
          show ((treeTo n m M k).bind fun s => if k < s.length then (if seenK (knotAt s k) then some s else growTo n M k s n.trans.length) else some s) = _
          rw [Hgr.out]
          simp only [Option.bind_some]
          rw [if_pos hks, if_pos h]
        have Hno : Hid (seenK (knotAt s k) = false → treeTo n m M (k + 1) = growTo n M k s n.trans.length) := by
          intro h
          show ((treeTo n m M k).bind fun s => if k < s.length then (if seenK (knotAt s k) then some s else growTo n M k s n.trans.length) else some s) = _
          rw [Hgr.out]
          simp only [Option.bind_some]
          rw [if_pos hks, h]
          rfl
        have hR := hS.read (by have := Hls.out; omega)
        go_wp2_with fail
        refine (tree_ends X M s kv k _ (by exact hR) hGr.linked hks (by have := Hls.out; omega)).mono ?_
        rintro e w4 ⟨rfl, b4⟩
        have hS4 := hS.to b4
        clear hS hR d0 d1 df b4
        cases hse : seenK (knotAt s k)
        · have E : Hid _ := Hno.out hse
          clear Hyes Hno hse
          obtain ⟨y0, y1, y2⟩ := hbx.below hS4.below
          go_wp2_with fail
          refine (tree_leave hS4 _ n m (by exact hv) k hks hGr HF.out hM3).mono ?_
          rintro e w5 ⟨cd, s', kv', ms', rfl, ⟨rfl, hgr, hS5⟩ | ⟨rfl, hgr, b5⟩⟩
          · have E2 : Hid (treeTo n m M (k + 1) = some s') := by show _ = _; rw [E.out]; exact hgr
            clear hS4 y0 y1 y2 hgr
            go_wp2
            go_roundg (G - 1)
            case measure => omega
            case rel => exact ⟨k + 1, s', kv', ms', by omega, by go_num, hS5, E2⟩
          · have E2 : Hid (treeL n m M = ([], 4)) := by
              have h1 : treeTo n m M (k + 1) = none := by rw [E.out]; exact hgr
              have h2 := tree_noneC h1 (M - (k + 1))
              rw [show k + 1 + (M - (k + 1)) = M by omega] at h2
              exact HG.out _ h2
            have R := b1.trans (b5.mono b1.size)
            clear hS4 y0 y1 y2 hgr
            go_wp2
            go_ret2
            exact coreT_no E2.out R
        · have E : Hid _ := Hyes.out hse
          clear Hyes Hno hse
          go_wp2
          go_roundg (G - 1)
          case measure => omega
          case rel => exact ⟨k + 1, s, kv, ms, by omega, by go_num, hS4, E⟩
      · have E : Hid (treeL n m M = (s.map KnotX.knot, 0)) := by
          have := tree_rest Hgr.out (by have := Hls.out; omega) (M - k)
          rw [show k + (M - k) = M by omega] at this
          exact HG.out _ this
        have R := b1.trans (hS.below.mono b1.size)
        have h3 : Hid (s.length ≤ 300) := by show _ ≤ _; have := Hls.out; omega
        have hkl' : ls ≤ k := by omega
        go_wp2
        go_ret2
        rw [E.out]
        exact ⟨_, rfl, R, .inr ⟨s, ms, X, M, w1, rfl, h3.out, b1.size, by rw [← Hls.out, ← hkv]; exact hS⟩⟩
  · have E : Hid (treeL n m most = ([], 2)) := by show _ = _; rw [treeL, graphOk, hf]; simp
    have R := below_then b1 b2
    clear hf x0 x1 x2
    go_wp2
    go_ret2
    exact coreT_no E.out R

end Go.Proofs.Ytbpkebkblkjdhaa
