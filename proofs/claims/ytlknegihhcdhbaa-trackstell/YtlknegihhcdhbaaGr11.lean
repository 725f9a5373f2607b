import Derived.Test.YtlknegihhcdhbaaTrRiseI
import Derived.Test.YtlknegihhcdhbaaGr09
import Derived.Test.YtlknegihhcdhbaaGr06
import Derived.Test.YtlknegihhcdhbaaGr04
import Derived.Test.YtlknegihhcdhbaaGr00
import Derived.Test.YtlknegihhcdhbaaGr01
import Derived.Test.YtlknegihhcdhbaaGr05
/- What the traces have shown so far: four sets. -/
namespace Go.Proofs.Ytlknegihhcdhbaa
open Go.RowKit
set_option linter.unusedVariables false
set_option linter.unusedSimpArgs false
set_option maxRecDepth 4000

theorem SetA.mono {α : Type} {K : TypeId} {lit : α → Lit} {ok : α → Prop} {w : World} {b n n' : Nat} {S : α → Prop} (h : SetA K lit ok w b n S) (hn : n ≤ n') : SetA K lit ok w b n' S := by
  obtain ⟨D, h1, h2⟩ := h; exact ⟨D, h1.mono hn, h2⟩
def firstP (t : List Int) (x : Int) : Prop := t ≠ [] ∧ x = nth t 0
def lastP (t : List Int) (x : Int) : Prop := t ≠ [] ∧ x = nth t (t.length - 1)
def behP (t : List Int) (k : Nat) (p : Int × Int) : Prop := ∃ j, 0 < j ∧ j < k ∧ nth t (j - 1) = p.1 ∧ nth t j = p.2

/-- Four sets at work. -/
structure SeenAt (w0 wq w : World) (b0 b1 b2 b3 n : Nat) (S0 S1 S2 : Int → Prop) (S3 : Int × Int → Prop) : Prop where
  s0 : SetI w b0 n S0
  s1 : SetI w b1 n S1
  s2 : SetI w b2 n S2
  s3 : SetP w b3 n S3
  ge : w0.heap.size ≤ b0 ∧ w0.heap.size ≤ b1 ∧ w0.heap.size ≤ b2 ∧ w0.heap.size ≤ b3
  ne : b0 ≠ b1 ∧ b0 ≠ b2 ∧ b0 ≠ b3 ∧ b1 ≠ b2 ∧ b1 ≠ b3 ∧ b2 ≠ b3
  below : Below w0.heap.size w0 w
  sizeq : wq.heap.size ≤ w.heap.size
  kept : ∀ q, q < wq.heap.size → q ≠ b0 → q ≠ b1 → q ≠ b2 → q ≠ b3 → w.heap[q]? = wq.heap[q]?
section
variable {w0 wq w w' : World} {b0 b1 b2 b3 n : Nat} {S0 S1 S2 : Int → Prop} {S3 : Int × Int → Prop}
theorem SeenAt.size (h : SeenAt w0 wq w b0 b1 b2 b3 n S0 S1 S2 S3) : w0.heap.size ≤ w.heap.size := h.below.size
theorem SeenAt.to (h : SeenAt w0 wq w b0 b1 b2 b3 n S0 S1 S2 S3) (hb : Below w.heap.size w w') : SeenAt w0 wq w' b0 b1 b2 b3 n S0 S1 S2 S3 :=
  ⟨h.s0.below hb, h.s1.below hb, h.s2.below hb, h.s3.below hb, h.ge, h.ne, h.below.trans (hb.mono h.size), Nat.le_trans h.sizeq hb.size, fun q hq k0 k1 k2 k3 => (hb.block q (Nat.lt_of_lt_of_le hq h.sizeq)).trans (h.kept q hq k0 k1 k2 k3)⟩
theorem SeenAt.mono (h : SeenAt w0 wq w b0 b1 b2 b3 n S0 S1 S2 S3) {n' : Nat} (hn : n ≤ n') : SeenAt w0 wq w b0 b1 b2 b3 n' S0 S1 S2 S3 :=
  ⟨h.s0.mono hn, h.s1.mono hn, h.s2.mono hn, h.s3.mono hn, h.ge, h.ne, h.below, h.sizeq, h.kept⟩
theorem SeenAt.add0 (h : SeenAt w0 wq w b0 b1 b2 b3 n S0 S1 S2 S3) {S : Int → Prop} (hs : SetI w' b0 (n + 1) S) (hg : w.grownBy w' (some b0)) : SeenAt w0 wq w' b0 b1 b2 b3 (n + 1) S S1 S2 S3 := by
  obtain ⟨e1, e2, e3, e4, e5, e6⟩ := h.ne
  exact ⟨hs, (h.s1.kept hg (fun e => by injection e with e; omega)).mono (by omega), (h.s2.kept hg (fun e => by injection e with e; omega)).mono (by omega), (h.s3.kept hg (fun e => by injection e with e; omega)).mono (by omega), h.ge, h.ne, h.below.grown hg h.size (fun j e => by injection e with e; have := h.ge; omega), Nat.le_trans h.sizeq hg.size, fun q hq k0 k1 k2 k3 => (hg.block q (Nat.lt_of_lt_of_le hq h.sizeq) (fun e => by injection e with e; exact k0 e)).trans (h.kept q hq k0 k1 k2 k3)⟩
theorem SeenAt.add1 (h : SeenAt w0 wq w b0 b1 b2 b3 n S0 S1 S2 S3) {S : Int → Prop} (hs : SetI w' b1 (n + 1) S) (hg : w.grownBy w' (some b1)) : SeenAt w0 wq w' b0 b1 b2 b3 (n + 1) S0 S S2 S3 := by
  obtain ⟨e1, e2, e3, e4, e5, e6⟩ := h.ne
  exact ⟨(h.s0.kept hg (fun e => by injection e with e; omega)).mono (by omega), hs, (h.s2.kept hg (fun e => by injection e with e; omega)).mono (by omega), (h.s3.kept hg (fun e => by injection e with e; omega)).mono (by omega), h.ge, h.ne, h.below.grown hg h.size (fun j e => by injection e with e; have := h.ge; omega), Nat.le_trans h.sizeq hg.size, fun q hq k0 k1 k2 k3 => (hg.block q (Nat.lt_of_lt_of_le hq h.sizeq) (fun e => by injection e with e; exact k1 e)).trans (h.kept q hq k0 k1 k2 k3)⟩
theorem SeenAt.add2 (h : SeenAt w0 wq w b0 b1 b2 b3 n S0 S1 S2 S3) {S : Int → Prop} (hs : SetI w' b2 (n + 1) S) (hg : w.grownBy w' (some b2)) : SeenAt w0 wq w' b0 b1 b2 b3 (n + 1) S0 S1 S S3 := by
  obtain ⟨e1, e2, e3, e4, e5, e6⟩ := h.ne
  exact ⟨(h.s0.kept hg (fun e => by injection e with e; omega)).mono (by omega), (h.s1.kept hg (fun e => by injection e with e; omega)).mono (by omega), hs, (h.s3.kept hg (fun e => by injection e with e; omega)).mono (by omega), h.ge, h.ne, h.below.grown hg h.size (fun j e => by injection e with e; have := h.ge; omega), Nat.le_trans h.sizeq hg.size, fun q hq k0 k1 k2 k3 => (hg.block q (Nat.lt_of_lt_of_le hq h.sizeq) (fun e => by injection e with e; exact k2 e)).trans (h.kept q hq k0 k1 k2 k3)⟩
theorem SeenAt.add3 (h : SeenAt w0 wq w b0 b1 b2 b3 n S0 S1 S2 S3) {S : Int × Int → Prop} (hs : SetP w' b3 (n + 1) S) (hg : w.grownBy w' (some b3)) : SeenAt w0 wq w' b0 b1 b2 b3 (n + 1) S0 S1 S2 S := by
  obtain ⟨e1, e2, e3, e4, e5, e6⟩ := h.ne
  exact ⟨(h.s0.kept hg (fun e => by injection e with e; omega)).mono (by omega), (h.s1.kept hg (fun e => by injection e with e; omega)).mono (by omega), (h.s2.kept hg (fun e => by injection e with e; omega)).mono (by omega), hs, h.ge, h.ne, h.below.grown hg h.size (fun j e => by injection e with e; have := h.ge; omega), Nat.le_trans h.sizeq hg.size, fun q hq k0 k1 k2 k3 => (hg.block q (Nat.lt_of_lt_of_le hq h.sizeq) (fun e => by injection e with e; exact k3 e)).trans (h.kept q hq k0 k1 k2 k3)⟩
theorem SeenAt.same (h : SeenAt w0 wq w b0 b1 b2 b3 n S0 S1 S2 S3) {T0 T1 T2 : Int → Prop} {T3 : Int × Int → Prop} (h0 : ∀ x, S0 x ↔ T0 x) (h1 : ∀ x, S1 x ↔ T1 x) (h2 : ∀ x, S2 x ↔ T2 x) (h3 : ∀ x, S3 x ↔ T3 x) : SeenAt w0 wq w b0 b1 b2 b3 n T0 T1 T2 T3 :=
  ⟨h.s0.same fun x _ => h0 x, h.s1.same fun x _ => h1 x, h.s2.same fun x _ => h2 x, h.s3.same fun x _ => h3 x, h.ge, h.ne, h.below, h.sizeq, h.kept⟩
end

/-- A box of four cells, that no set lies in. -/
def Box4 (w : World) (x : Nat) (v0 v1 v2 v3 : Value) : Prop := x < w.heap.size ∧ w.cell? ⟨x, 0, none⟩ = some v0 ∧ w.cell? ⟨x, 1, none⟩ = some v1 ∧ w.cell? ⟨x, 2, none⟩ = some v2 ∧ w.cell? ⟨x, 3, none⟩ = some v3
theorem box4_new (w : World) (v0 v1 v2 v3 : Value) (t : TypeId) : Box4 (w.alloc (.cells #[v0, v1, v2, v3] t)) w.heap.size v0 v1 v2 v3 :=
  ⟨by simp, by rw [World.cell?_alloc_at _ _ _ _ rfl]; rfl, by rw [World.cell?_alloc_at _ _ _ _ rfl]; rfl, by rw [World.cell?_alloc_at _ _ _ _ rfl]; rfl, by rw [World.cell?_alloc_at _ _ _ _ rfl]; rfl⟩
theorem Box4.below {w w' : World} {x : Nat} {v0 v1 v2 v3 : Value} (h : Box4 w x v0 v1 v2 v3) (hb : Below w.heap.size w w') : Box4 w' x v0 v1 v2 v3 := by
  obtain ⟨hx, h0, h1, h2, h3⟩ := h
  exact ⟨Nat.lt_of_lt_of_le hx hb.size, by rw [hb.cell (p := ⟨x, 0, none⟩) hx]; exact h0, by rw [hb.cell (p := ⟨x, 1, none⟩) hx]; exact h1, by rw [hb.cell (p := ⟨x, 2, none⟩) hx]; exact h2, by rw [hb.cell (p := ⟨x, 3, none⟩) hx]; exact h3⟩
theorem Box4.grown {w w' : World} {x b : Nat} {v0 v1 v2 v3 : Value} (h : Box4 w x v0 v1 v2 v3) (hg : w.grownBy w' (some b)) (hne : x ≠ b) : Box4 w' x v0 v1 v2 v3 := by
  obtain ⟨hx, h0, h1, h2, h3⟩ := h
  have hB : w'.heap[x]? = w.heap[x]? := hg.block x hx (fun e => by injection e with e; omega)
  exact ⟨Nat.lt_of_lt_of_le hx hg.size, (World.cell?_of_block (a := ⟨x, 0, none⟩) hB).trans h0, (World.cell?_of_block (a := ⟨x, 1, none⟩) hB).trans h1, (World.cell?_of_block (a := ⟨x, 2, none⟩) hB).trans h2, (World.cell?_of_block (a := ⟨x, 3, none⟩) hB).trans h3⟩

end Go.Proofs.Ytlknegihhcdhbaa

/- look: what a trace shows. -/
namespace Go.Proofs.Ytlknegihhcdhbaa
open Go.RowKit
set_option linter.unusedVariables false
set_option linter.unusedSimpArgs false
set_option maxRecDepth 4000

theorem behP_succ (t : List Int) (k : Nat) (p : Int × Int) : behP t (k + 1) p ↔ behP t k p ∨ (0 < k ∧ p = (nth t (k - 1), nth t k)) := by
  unfold behP
  constructor
  · rintro ⟨j, h0, h1, h2, h3⟩
    by_cases e : j = k
    · subst e; exact .inr ⟨h0, Prod.ext h2.symm h3.symm⟩
    · exact .inl ⟨j, h0, by omega, h2, h3⟩
  · rintro (⟨j, h0, h1, h2, h3⟩ | ⟨h0, rfl⟩)
    · exact ⟨j, h0, by omega, h2, h3⟩
    · exact ⟨k, h0, by omega, rfl, rfl⟩

theorem ints_cells {w : World} {a : Option Addr} {len cap : Nat} {xs : List Int} (h : Ints w (.slice a len cap) xs) (hp : 0 < len) : ∃ b off, a = some ⟨b, off, none⟩ ∧ b < w.heap.size ∧ ∀ k, k < len → w.cell? ⟨b, off + k, none⟩ = some (.int .i64 (nth xs k)) := by
  obtain ⟨b, off, rfl, hlt, _⟩ := ints_atL h hp
  refine ⟨b, off, rfl, hlt, fun k hk => ?_⟩
  obtain ⟨b', off', e, _, hc⟩ := ints_atL h hk
  injection e with e
  injection e with e1 e2
  subst e1 e2
  exact hc

set_option maxHeartbeats 4000000 in
theorem look_any (w0 wq w : World) (b0 b1 b2 b3 n : Nat) (S0 S1 S2 : Int → Prop) (S3 : Int × Int → Prop) (h : SeenAt w0 wq w b0 b1 b2 b3 n S0 S1 S2 S3) (v : Value) (t : List Int) (hv : Ints w0 v t) (ht : ∀ x ∈ t, okI x) (hl : t.length ≤ 60) (hn : n + 200 ≤ 1000000) :
    Calls Try.prog 30 #[.agg #[.map (some b0), .map (some b1), .map (some b2), .map (some b3)], v] w fun e w' => e = .returned (.tuple #[]) ∧
      SeenAt w0 wq w' b0 b1 b2 b3 (n + 200) (fun x => S0 x ∨ x ∈ t) (fun x => S1 x ∨ firstP t x) (fun x => S2 x ∨ lastP t x) (fun p => S3 p ∨ behP t t.length p) := by
  obtain ⟨a, len, cap, rfl, hlen, hmx, hsh, hr⟩ := id hv
  have Hlen : Hid (t.length = len) := hlen
  rw [Hlen.out] at hl
  clear hlen hsh hr
  have Ht : Hid (∀ k, k < len → okI (nth t k)) := fun k hk => ht _ (by rw [nth_get (by rw [Hlen.out]; exact hk)]; exact List.getElem_mem _)
  clear ht
  have hbx := box4_new w (.map (some b0)) (.map (some b1)) (.map (some b2)) (.map (some b3)) 58
  have hS := h.to (below_new w (.cells #[.map (some b0), .map (some b1), .map (some b2), .map (some b3)] 58))
  have hxb : Hid (w.heap.size ≠ b0 ∧ w.heap.size ≠ b1 ∧ w.heap.size ≠ b2 ∧ w.heap.size ≠ b3) := by
    have := h.s0.lt; have := h.s1.lt; have := h.s2.lt; have := h.s3.lt
    show _ ∧ _
    omega
  obtain ⟨w1, H1⟩ : ∃ u, Hid (w.alloc (.cells #[.map (some b0), .map (some b1), .map (some b2), .map (some b3)] 58) = u) := ⟨_, rfl⟩
  rw [H1.out] at hbx hS
  clear h
  go_enter Try.func30, Try.ntmps30
  go_upto_region 1 with fail
  rw [H1.out]
  by_cases hz : len = 0
  · subst hz
    have ht0 : t = [] := List.length_eq_zero_iff.1 Hlen.out
    subst ht0
    have hS' := (hS.mono (n' := n + 200) (by omega)).same (T0 := fun x => S0 x ∨ x ∈ ([] : List Int)) (T1 := fun x => S1 x ∨ firstP [] x) (T2 := fun x => S2 x ∨ lastP [] x) (T3 := fun p => S3 p ∨ behP [] ([] : List Int).length p)
      (fun x => by simp) (fun x => by simp [firstP]) (fun x => by simp [lastP]) (fun x => by unfold behP; simp)
    clear hS
    go_wp2
    (try simp only [Exit.inBlock, Exit.then])
    refine bodyPost_ret (results_none rfl _ _ _) rfl ?_
    exact ⟨rfl, hS'⟩
  · have Hne : Hid (t ≠ []) := fun e => by have := Hlen.out; rw [e] at this; exact hz this.symm
    have hpos : 0 < len := by omega
    obtain ⟨tb, tf, rfl, hltb, hcs⟩ := ints_cells hv hpos
    have HC : Hid (∀ (wr : World) k, k < len → Below w0.heap.size w0 wr → wr.cell? ⟨tb, tf + k, none⟩ = some (.int .i64 (nth t k))) := fun wr k hk hb => by rw [hb.cell (p := ⟨tb, tf + k, none⟩) hltb]; exact hcs k hk
    clear hcs
    have c0 := HC.out w1 0 hpos hS.below
    have cL := HC.out w1 (len - 1) (by omega) hS.below
    obtain ⟨z0, Hz0⟩ : ∃ z, Hid (nth t 0 = z) := ⟨_, rfl⟩
    obtain ⟨zl, Hzl⟩ : ∃ z, Hid (nth t (len - 1) = z) := ⟨_, rfl⟩
    have Hok0 : Hid (okI z0) := by show okI _; rw [← Hz0.out]; exact Ht.out 0 hpos
    have Hokl : Hid (okI zl) := by show okI _; rw [← Hzl.out]; exact Ht.out _ (by omega)
    rw [Hz0.out] at c0
    rw [Hzl.out] at cL
    obtain ⟨x0, x1, x2, x3, x4⟩ := id hbx
    have i0 : (0 : Int) < (len : Int) := by omega
    rw [Nat.add_zero] at c0
    go_upto_region 2 with fail
    go_region_held3 (fun w' => w'.cell? ⟨w.heap.size, 1, none⟩ = some (.map (some b1)) ∧ w'.cell? ⟨tb, tf, none⟩ = some (.int .i64 z0))
      (go_keep)
      (first
        | (go_at_call 57; refine (addI_any b1 n z0 S1 _ ?_ Hok0.out (by omega)).mono ?_; (exact (hS.to (Below.refl _ _).drew).s1); rintro e w2 ⟨rfl, hs2, hg2⟩; have hS2 := (hS.to (Below.refl _ _).drew).add1 hs2 hg2; have hb2 := (hbx.below (Below.refl _ _).drew).grown hg2 hxb.out.2.1; obtain ⟨y0, y1, y2, y3, y4⟩ := id hb2; have d0 := HC.out w2 0 hpos hS2.below; rw [Hz0.out, Nat.add_zero] at d0))
    have H2 := hS2.same (T0 := S0) (T1 := fun x => S1 x ∨ firstP t x) (T2 := S2) (T3 := S3) (fun x => Iff.rfl) (fun x => by unfold firstP; rw [Hz0.out]; exact or_congr_right ⟨fun e => ⟨Hne.out, e⟩, fun e => e.2⟩) (fun x => Iff.rfl) (fun x => Iff.rfl)
    clear hS2 hs2 hg2 hS hbx x0 x1 x2 x3 x4 c0 cL d0
    have cL := HC.out w2 (len - 1) (by omega) H2.below
    rw [Hzl.out] at cL
    have wL : IntKind.i64.wrap ((len : Int) - 1) = ((len - 1 : Nat) : Int) := by rw [show ((len : Int) - 1) = ((len - 1 : Nat) : Int) by omega]; exact Go.IntWalk.i64_in _ ⟨by omega, by omega⟩
    have iL : (0 : Int) ≤ ((len - 1 : Nat) : Int) := by omega
    have jL : ((len - 1 : Nat) : Int) < (len : Int) := by omega
    have kL : len - 1 < len := by omega
    go_upto_region 3 with fail
    go_region_held3 (fun w' => w'.cell? ⟨w.heap.size, 2, none⟩ = some (.map (some b2)) ∧ w'.cell? ⟨tb, tf + (len - 1), none⟩ = some (.int .i64 zl))
      (go_keep)
      (first
        | (go_at_call 57; refine (addI_any b2 (n + 1) zl S2 _ ?_ Hokl.out (by omega)).mono ?_; (exact (H2.to (Below.refl _ _).drew).s2); rintro e w3 ⟨rfl, hs3, hg3⟩; have hS3 := (H2.to (Below.refl _ _).drew).add2 hs3 hg3; have hb3 := (hb2.below (Below.refl _ _).drew).grown hg3 hxb.out.2.2.1; obtain ⟨z0', z1, z2, z3, z4⟩ := id hb3; have dL := HC.out w3 (len - 1) (by omega) hS3.below; rw [Hzl.out] at dL))
    have H3 := (hS3.same (T0 := fun x => S0 x ∨ x ∈ t.take 0) (T1 := fun x => S1 x ∨ firstP t x) (T2 := fun x => S2 x ∨ lastP t x) (T3 := fun p => S3 p ∨ behP t 0 p) (fun x => by simp) (fun x => Iff.rfl)
      (fun x => by unfold lastP; rw [Hlen.out, Hzl.out]; exact or_congr_right ⟨fun e => ⟨Hne.out, e⟩, fun e => e.2⟩) (fun x => by unfold behP; simp)).mono (n' := n + 2 + 2 * 0) (by omega)
    clear hS3 hs3 hg3 H2 hb2 y0 y1 y2 y3 y4 z0' z1 z2 z3 z4 cL dL wL iL jL kL Hok0 Hokl Hz0 Hzl i0
    obtain ⟨xb, HX⟩ : ∃ x, Hid (w.heap.size = x) := ⟨_, rfl⟩
    rw [HX.out] at hb3 hxb ⊢
    go_wp2_with fail
    go_loopg [26] len (fun gk i' wr => ∃ k : Nat, k + gk = len ∧ i' = .int .i64 (k : Int) ∧ SeenAt w0 wq wr b0 b1 b2 b3 (n + 2 + 2 * k) (fun x => S0 x ∨ x ∈ t.take k) (fun x => S1 x ∨ firstP t x) (fun x => S2 x ∨ lastP t x) (fun p => S3 p ∨ behP t k p) ∧
      Box4 wr xb (.map (some b0)) (.map (some b1)) (.map (some b2)) (.map (some b3)))
    case atStart => exact ⟨0, by omega, rfl, H3, hb3⟩
    case round =>
      clear H3 hb3
      obtain ⟨k, hkg, rfl, hS, hb⟩ := hrel
      by_cases hk : k < len
      · have c2 := HC.out wr k hk hS.below
        obtain ⟨z, HZ⟩ : ∃ z, Hid (nth t k = z) := ⟨_, rfl⟩
        have Hz : Hid (okI z) := by show okI _; rw [← HZ.out]; exact Ht.out k hk
        rw [HZ.out] at c2
        obtain ⟨x0, x1, x2, x3, x4⟩ := id hb
        have HT : Hid (∀ x, ((S0 x ∨ x ∈ t.take k) ∨ x = z) ↔ (S0 x ∨ x ∈ t.take (k + 1))) := fun x => by
          rw [take_succ_nth (by rw [Hlen.out]; exact hk), List.mem_append, List.mem_singleton, HZ.out, or_assoc]
        by_cases hk0 : k = 0
        · subst hk0
          rw [Nat.add_zero] at c2
          go_wp2_with (go_at_call 57; refine (addI_any b0 (n + 2 + 2 * 0) z (fun x => S0 x ∨ x ∈ t.take 0) wr ?_ Hz.out (by omega)).mono ?_; (exact hS.s0); rintro e w4 ⟨rfl, hs4, hg4⟩)
          have hS4 := ((hS.add0 hs4 hg4).same (T0 := fun x => S0 x ∨ x ∈ t.take (0 + 1)) (T1 := fun x => S1 x ∨ firstP t x) (T2 := fun x => S2 x ∨ lastP t x) (T3 := fun p => S3 p ∨ behP t (0 + 1) p) HT.out (fun x => Iff.rfl) (fun x => Iff.rfl) (fun x => by rw [behP_succ]; simp)).mono (n' := n + 2 + 2 * (0 + 1)) (by omega)
          have hb4 := hb.grown hg4 hxb.out.1
          clear hS hb hs4 hg4 x0 x1 x2 x3 x4 c2
          go_wp2
          go_roundg (gk - 1)
          case measure => omega
          case rel => exact ⟨0 + 1, by omega, by go_num, hS4, hb4⟩
        · have i0 : (0 : Int) < (k : Int) := by omega
          go_upto_region 9 with (go_at_call 57; refine (addI_any b0 (n + 2 + 2 * k) z (fun x => S0 x ∨ x ∈ t.take k) wr ?_ Hz.out (by omega)).mono ?_; (exact hS.s0); rintro e w4 ⟨rfl, hs4, hg4⟩)
          have hS4 := (hS.add0 hs4 hg4).same (T0 := fun x => S0 x ∨ x ∈ t.take (k + 1)) (T1 := fun x => S1 x ∨ firstP t x) (T2 := fun x => S2 x ∨ lastP t x) (T3 := fun p => S3 p ∨ behP t k p) HT.out (fun x => Iff.rfl) (fun x => Iff.rfl) (fun x => Iff.rfl)
          have hb4 := hb.grown hg4 hxb.out.1
          clear hS hb hs4 hg4 x0 x1 x2 x3 x4 c2
          have c2 := HC.out w4 (k - 1) (by omega) hS4.below
          obtain ⟨y, HY⟩ : ∃ y, Hid (nth t (k - 1) = y) := ⟨_, rfl⟩
          have Hy : Hid (okI y) := by show okI _; rw [← HY.out]; exact Ht.out (k - 1) (by omega)
          rw [HY.out] at c2
          have wL : IntKind.i64.wrap ((k : Int) - 1) = ((k - 1 : Nat) : Int) := by rw [show ((k : Int) - 1) = ((k - 1 : Nat) : Int) by omega]; exact Go.IntWalk.i64_in _ ⟨by omega, by omega⟩
          have iL : (0 : Int) ≤ ((k - 1 : Nat) : Int) := by omega
          have jL : ((k - 1 : Nat) : Int) < (len : Int) := by omega
          have kL : k - 1 < len := by omega
          obtain ⟨x0, x1, x2, x3, x4⟩ := id hb4
          have HU : Hid (∀ p, ((S3 p ∨ behP t k p) ∨ p = (y, z)) ↔ (S3 p ∨ behP t (k + 1) p)) := fun p => by
            rw [behP_succ, HY.out, HZ.out, or_assoc]
            exact or_congr_right (or_congr_right ⟨fun e => ⟨by omega, e⟩, fun e => e.2⟩)
          go_region_held3 (fun w' => w'.cell? ⟨xb, 3, none⟩ = some (.map (some b3)) ∧ w'.cell? ⟨tb, tf + (k - 1), none⟩ = some (.int .i64 y))
            (go_keep)
            (first
              | (go_at_call 58; refine (addP_any b3 (n + 2 + 2 * k + 1) (y, z) (fun p => S3 p ∨ behP t k p) _ ?_ ⟨Hy.out, Hz.out⟩ (by omega)).mono ?_; (exact (hS4.to (Below.refl _ _).drew).s3); rintro e w5 ⟨rfl, hs5, hg5⟩; have hS5 := (hS4.to (Below.refl _ _).drew).add3 hs5 hg5; have hb5 := (hb4.below (Below.refl _ _).drew).grown hg5 hxb.out.2.2.2; obtain ⟨v0, v1, v2, v3, v4⟩ := id hb5; have d2 := HC.out w5 (k - 1) (by omega) hS5.below; rw [HY.out] at d2))
          have hS6 := (hS5.same (T0 := fun x => S0 x ∨ x ∈ t.take (k + 1)) (T1 := fun x => S1 x ∨ firstP t x) (T2 := fun x => S2 x ∨ lastP t x) (T3 := fun p => S3 p ∨ behP t (k + 1) p) (fun x => Iff.rfl) (fun x => Iff.rfl) (fun x => Iff.rfl) HU.out).mono (n' := n + 2 + 2 * (k + 1)) (by omega)
          clear hS5 hs5 hg5 hS4 hb4 x0 x1 x2 x3 x4 c2 v0 v1 v2 v3 v4 d2 wL iL jL kL
          go_wp2
          go_roundg (gk - 1)
          case measure => omega
          case rel => exact ⟨k + 1, by omega, by go_num, hS6, hb5⟩
      · obtain rfl : k = len := by omega
        have hS' := (hS.same (T0 := fun x => S0 x ∨ x ∈ t) (T1 := fun x => S1 x ∨ firstP t x) (T2 := fun x => S2 x ∨ lastP t x) (T3 := fun p => S3 p ∨ behP t t.length p) (fun x => by rw [List.take_of_length_le (by rw [Hlen.out]; exact Nat.le_refl _)]) (fun x => Iff.rfl) (fun x => Iff.rfl) (fun x => by rw [Hlen.out])).mono (n' := n + 200) (by omega)
        clear hS hb
        go_wp2
        go_end0
        exact ⟨rfl, hS'⟩

end Go.Proofs.Ytlknegihhcdhbaa

/- What all traces show, plainly. -/
namespace Go.Proofs.Ytlknegihhcdhbaa
set_option linter.unusedVariables false
set_option maxRecDepth 4000

def SomeT {α : Type} (f : List Int → α → Prop) (log : List (List Int)) (k : Nat) (x : α) : Prop := ∃ t, t ∈ log.take k ∧ f t x
theorem someT_zero {α : Type} (f : List Int → α → Prop) (log : List (List Int)) (x : α) : SomeT f log 0 x ↔ False := by
  unfold SomeT; simp
theorem someT_succ {α : Type} {f : List Int → α → Prop} {log : List (List Int)} {k : Nat} (hk : k < log.length) (x : α) : (SomeT f log k x ∨ f (log.getD k []) x) ↔ SomeT f log (k + 1) x := by
  unfold SomeT
  rw [List.take_add_one, List.getElem?_eq_getElem hk, List.getD_eq_getElem?_getD, List.getElem?_eq_getElem hk]
  constructor
  · rintro (⟨t, ht, hf⟩ | hf)
    · exact ⟨t, List.mem_append.2 (.inl ht), hf⟩
    · exact ⟨_, List.mem_append.2 (.inr (by simp)), hf⟩
  · rintro ⟨t, ht, hf⟩
    rcases List.mem_append.1 ht with ht | ht
    · exact .inl ⟨t, ht, hf⟩
    · have : t = log[k] := by simpa using ht
      exact .inr (by rw [this] at hf; exact hf)
theorem someT_all {α : Type} {f : List Int → α → Prop} {g : α → List Int → Bool} (hg : ∀ t x, f t x ↔ g x t = true) (log : List (List Int)) (x : α) : SomeT f log log.length x ↔ log.any (g x) = true := by
  unfold SomeT
  rw [List.take_of_length_le (Nat.le_refl _), List.any_eq_true]
  exact ⟨fun ⟨t, h1, h2⟩ => ⟨t, h1, (hg t x).1 h2⟩, fun ⟨t, h1, h2⟩ => ⟨t, h1, (hg t x).2 h2⟩⟩
theorem in_iff (t : List Int) (x : Int) : x ∈ t ↔ inT x t = true := by unfold inT; simp
theorem first_iff (t : List Int) (x : Int) : firstP t x ↔ firstT x t = true := by
  unfold firstP firstT
  cases t with
  | nil => simp
  | cons y r =>
    show _ ↔ (some y == some x) = true
    rw [beq_iff_eq, Option.some.injEq]
    exact ⟨fun h => h.2.symm, fun h => ⟨List.cons_ne_nil _ _, h.symm⟩⟩
theorem last_iff (t : List Int) (x : Int) : lastP t x ↔ lastT x t = true := by
  unfold lastP lastT
  by_cases h : t = []
  · subst h; simp
  · have hl : t.length - 1 < t.length := by have := List.length_pos_iff.2 h; omega
    rw [List.getLast?_eq_getElem?, List.getElem?_eq_getElem hl, nth_get hl]
    rw [beq_iff_eq, Option.some.injEq]
    exact ⟨fun q => q.2.symm, fun q => ⟨h, q.symm⟩⟩
theorem beh_iff (t : List Int) (p : Int × Int) : behP t t.length p ↔ behindT p t = true := by
  unfold behP behindT
  rw [List.any_eq_true]
  constructor
  · rintro ⟨j, h0, h1, h2, h3⟩
    exact ⟨j, List.mem_range.2 h1, by simp [h0, h2, h3]⟩
  · rintro ⟨j, h1, h2⟩
    simp only [Bool.and_eq_true, decide_eq_true_eq, beq_iff_eq] at h2
    exact ⟨j, h2.1.1, List.mem_range.1 h1, h2.1.2, h2.2⟩
theorem nth_mem {t : List Int} {k : Nat} (h : k < t.length) : nth t k ∈ t := by rw [nth_get h]; exact List.getElem_mem h
theorem firstP_mem {t : List Int} {x : Int} (h : firstP t x) : x ∈ t := by obtain ⟨h, rfl⟩ := h; exact nth_mem (List.length_pos_iff.2 h)
theorem lastP_mem {t : List Int} {x : Int} (h : lastP t x) : x ∈ t := by obtain ⟨h, rfl⟩ := h; exact nth_mem (by have := List.length_pos_iff.2 h; omega)
theorem behP_mem {t : List Int} {p : Int × Int} (h : behP t t.length p) : p.1 ∈ t ∧ p.2 ∈ t := by
  obtain ⟨j, h0, h1, h2, h3⟩ := h
  rw [← h2, ← h3]
  exact ⟨nth_mem (by omega), nth_mem h1⟩
theorem someT_label {f : List Int → Int → Prop} {g : Int → List Int → Bool} {log : List (List Int)} (hL : ∀ t ∈ log, ∀ x ∈ t, 1 ≤ x ∧ x ≤ 26) (hg : ∀ t x, f t x ↔ g x t = true) (hm : ∀ t x, f t x → x ∈ t) (x : Int) :
    SomeT f log log.length x ↔ (1 ≤ x ∧ x ≤ 26) ∧ log.any (g x) = true := by
  rw [← someT_all hg]
  refine ⟨fun h => ⟨?_, h⟩, fun h => h.2⟩
  obtain ⟨t, h1, h2⟩ := h
  exact hL t (List.mem_of_mem_take h1) x (hm t x h2)
theorem someT_pair {log : List (List Int)} (hL : ∀ t ∈ log, ∀ x ∈ t, 1 ≤ x ∧ x ≤ 26) (x : Int × Int) :
    SomeT (fun t p => behP t t.length p) log log.length x ↔ ((1 ≤ x.1 ∧ x.1 ≤ 26) ∧ 1 ≤ x.2 ∧ x.2 ≤ 26) ∧ log.any (behindT x) = true := by
  rw [← someT_all (f := fun t p => behP t t.length p) (g := behindT) beh_iff]
  refine ⟨fun h => ⟨?_, h⟩, fun h => h.2⟩
  obtain ⟨t, h1, h2⟩ := h
  have hm := behP_mem h2
  exact ⟨hL t (List.mem_of_mem_take h1) _ hm.1, hL t (List.mem_of_mem_take h1) _ hm.2⟩

end Go.Proofs.Ytlknegihhcdhbaa

/- The document's own, of tracks: VWrong. -/
namespace Go.Proofs.Ytlknegihhcdhbaa
open Go.RowKit
set_option linter.unusedVariables false
set_option linter.unusedSimpArgs false
set_option maxRecDepth 4000

theorem any_noLab {t : List Int} {j : Nat} (hj : j < t.length) (h : noLab (nth t j) = true) : t.any noLab = true := List.any_eq_true.2 ⟨_, nth_mem hj, h⟩
theorem none_noLab {t : List Int} (h : ∀ j, j < t.length → noLab (nth t j) = false) : t.any noLab = false := by
  rw [Bool.eq_false_iff]
  intro hc
  obtain ⟨x, hx, hn⟩ := List.any_eq_true.1 hc
  obtain ⟨j, hj, rfl⟩ := List.mem_iff_getElem.1 hx
  have := h j hj
  rw [nth_get hj] at this
  rw [this] at hn
  cases hn

set_option maxHeartbeats 4000000 in
theorem vwrong_any (v : Value) (log : List (List Int)) (w : World) (hv : Lists w v log) :
    Calls Try.prog 10 #[v] w fun e w' => e = .returned (.int .i64 (wrongV log)) ∧ w' = w := by
  obtain ⟨a, len, cap, rfl, hlen, hmx, hsh, hr⟩ := id hv
  have Hlen : Hid (log.length = len) := hlen
  clear hlen hr hsh
  by_cases h60 : 60 < len
  · have e : wrongV log = 4 := by unfold wrongV; rw [Hlen.out, if_pos h60]
    rw [e]
    have i0 : (60 : Int) < (len : Int) := by omega
    go_enter Try.func10, Try.ntmps10
    go_wp2
    go_ret
    exact ⟨rfl, rfl⟩
  · have e : wrongV log = if log.any badT then 2 else 0 := by unfold wrongV; rw [Hlen.out, if_neg h60]
    rw [e]
    have HV : Hid (Lists w (.slice a len cap) log) := hv
    obtain ⟨r, Hr⟩ : ∃ r, Hid ((if log.any badT then (2 : Int) else 0) = r) := ⟨_, rfl⟩
    rw [Hr.out]
    go_enter Try.func10, Try.ntmps10
    go_wp2_with fail
    go_loopg [12] len (fun gk i' wr => ∃ k : Nat, k + gk = len ∧ i' = .int .i64 (k : Int) ∧ wr = w ∧ Hid ((log.take k).any badT = false))
    case atStart => exact ⟨0, by omega, rfl, rfl, rfl⟩
    case round =>
      obtain ⟨k, hkg, rfl, rfl, HN⟩ := hrel
      obtain ⟨g1, rfl⟩ : ∃ g1, g1 = gk := ⟨_, rfl⟩
      by_cases hk : k < len
      · obtain ⟨tb, tf, u, rfl, hlt, c2, hu⟩ := lists_at HV.out hk
        obtain ⟨t, HT⟩ : ∃ t, Hid (log.getD k [] = t) := ⟨_, rfl⟩
        rw [HT.out] at hu
        obtain ⟨ta, tl, tc, rfl, htl, htm, hts, htr⟩ := id hu
        have Htl : Hid (t.length = tl) := htl
        clear htr hts htl
        have HS : Hid ((log.take (k + 1)).any badT = badT t) := by
          show _ = _
          rw [any_take_succ (by rw [Hlen.out]; exact hk), HN.out, HT.out, Bool.false_or]
        have HE : Hid (badT t = true → r = 2) := fun hb => by
          have : log.any badT = true := by
            rw [List.any_eq_true]
            exact ⟨t, by rw [← HT.out]; exact at_lists (by rw [Hlen.out]; exact hk), hb⟩
          rw [← Hr.out, this]; rfl
        go_upto_region 7 with fail
        clear c2
        obtain ⟨wk, rfl⟩ : ∃ z, z = wr := ⟨_, rfl⟩
        go_loopg [18] tl (fun gk i' wr => ∃ j : Nat, j + gk = tl ∧ i' = .int .i64 (j : Int) ∧ wr = wk ∧ j ≤ 60 ∧ Hid (∀ i, i < j → noLab (nth t i) = false))
        case atStart => exact ⟨0, by omega, rfl, rfl, by omega, fun i hi => absurd hi (Nat.not_lt_zero _)⟩
        case round =>
          obtain ⟨j, hjg, rfl, rfl, hj60, HJ⟩ := hrel
          by_cases hj : j < tl
          · obtain ⟨b3, o3, rfl, hlt3, c3⟩ := ints_atL hu hj
            obtain ⟨z, HZ⟩ : ∃ z, Hid (nth t j = z) := ⟨_, rfl⟩
            rw [HZ.out] at c3
            have Hjl : Hid (j < t.length) := by show _ < _; rw [Htl.out]; exact hj
            have HZ2 : Hid (noLab z = true → r = 2) := fun h => HE.out (by unfold badT; rw [any_noLab Hjl.out (by rw [HZ.out]; exact h)]; simp)
            by_cases h1 : z < 1
            · have hr2 : Hid (r = 2) := HZ2.out (by unfold noLab; simp [h1])
              go_wp2
              go_ret
              exact ⟨(by rw [hr2.out]; rfl), rfl⟩
            · by_cases h2 : 26 < z
              · have hr2 : Hid (r = 2) := HZ2.out (by unfold noLab; simp [h2])
                go_wp2
                go_ret
                exact ⟨(by rw [hr2.out]; rfl), rfl⟩
              · by_cases h3 : 60 ≤ j
                · have hr2 : Hid (r = 2) := HE.out (by unfold badT; rw [Htl.out]; simp; left; omega)
                  have i3 : (60 : Int) ≤ (j : Int) := by omega
                  go_wp2
                  go_ret
                  exact ⟨(by rw [hr2.out]; rfl), rfl⟩
                · have i3 : ¬ (60 : Int) ≤ (j : Int) := by omega
                  have HJ2 : Hid (∀ i, i < j + 1 → noLab (nth t i) = false) := fun i hi => by
                    rcases Nat.lt_or_ge i j with h | h
                    · exact HJ.out i h
                    · obtain rfl : i = j := by omega
                      rw [HZ.out]; unfold noLab; simp [h1, h2]
                  go_wp2
                  go_roundg (gk - 1)
                  case measure => omega
                  case rel => exact ⟨j + 1, by omega, by go_num, rfl, by omega, HJ2⟩
          · obtain rfl : j = tl := by omega
            have HN2 : Hid ((log.take (k + 1)).any badT = false) := by
              show _ = _
              rw [HS.out]
              unfold badT
              rw [none_noLab (by rw [Htl.out]; exact HJ.out), Htl.out]
              simp; omega
            go_wp2
            go_roundg (g1 - 1)
            case measure => omega
            case rel => exact ⟨k + 1, by omega, by go_num, rfl, HN2⟩
      · obtain rfl : k = len := by omega
        have hr2 : Hid (r = 0) := by
          show _ = _
          have := HN.out
          rw [List.take_of_length_le (by rw [Hlen.out]; exact Nat.le_refl _)] at this
          rw [← Hr.out, this]
          rfl
        go_wp2
        go_ret
        exact ⟨(by rw [hr2.out]; rfl), rfl⟩

end Go.Proofs.Ytlknegihhcdhbaa

/- prints: all that was seen, rising; Of. -/
namespace Go.Proofs.Ytlknegihhcdhbaa
open Go.RowKit
set_option linter.unusedVariables false
set_option linter.unusedSimpArgs false
set_option maxRecDepth 4000

theorem results_prints {fn : Func} {p : Tmp} {tmps : Array Value} {w : World} {b : Nat} {v0 v1 v2 v3 : Value} (h : fn.results = #[.cell p 26]) (hp : tmps.getD p undef = .pointer (some ⟨b, 0, none⟩)) (hB : Box4 w b v0 v1 v2 v3) :
    (results fn tmps).run Try.prog w = .ok (.agg #[v0, v1, v2, v3]) w := by
  obtain ⟨_, h0, h1, h2, h3⟩ := hB
  have e : (results fn tmps).run Try.prog w = ((asAddr (tmps.getD p undef)).run Try.prog w).andThen fun a w₁ => (loadVar 26 a).run Try.prog w₁ := by
    simp only [results, h]
    simp [Sem.run_bind, Result.andThen]
  rw [e, hp]
  simp [asAddr, go_sem, h0, h1, h2, h3]
theorem results_prints1 {fn : Func} {p u : Tmp} {tmps : Array Value} {w : World} {b : Nat} {v0 v1 v2 v3 x : Value} (h : fn.results = #[.cell p 26, .tmp u]) (hp : tmps.getD p undef = .pointer (some ⟨b, 0, none⟩)) (hu : tmps.getD u undef = x) (hB : Box4 w b v0 v1 v2 v3) :
    (results fn tmps).run Try.prog w = .ok (.tuple #[.agg #[v0, v1, v2, v3], x]) w := by
  obtain ⟨_, h0, h1, h2, h3⟩ := hB
  rw [results_cell_tmp h, hp, hu]
  simp [asAddr, go_sem, h0, h1, h2, h3]

/-- A slice of pairs of numbers. -/
def prAt (l : List (Int × Int)) (k : Nat) : Int × Int := l.getD k (0, 0)
def PairsV (w : World) (v : Value) (l : List (Int × Int)) : Prop := l.length ≤ 8796093022208 ∧ CellsV w v 2 8796093022208 l.length (cellsP l)
/-- What logs show, in memory. -/
def PrintsV (w : World) (v : Value) (p : PrintsL) : Prop := ∃ v0 v1 v2 v3, v = .agg #[v0, v1, v2, v3] ∧ Ints w v0 p.labels ∧ Ints w v1 p.first ∧ Ints w v2 p.last ∧ PairsV w v3 p.behind
theorem PairsV.below {w w' : World} {v : Value} {l : List (Int × Int)} (h : PairsV w v l) (hb : Below w.heap.size w w') : PairsV w' v l := ⟨h.1, h.2.below hb⟩
theorem PrintsV.below {w w' : World} {v : Value} {p : PrintsL} (h : PrintsV w v p) (hb : Below w.heap.size w w') : PrintsV w' v p := by
  obtain ⟨v0, v1, v2, v3, e, h0, h1, h2, h3⟩ := h
  exact ⟨v0, v1, v2, v3, e, h0.below hb, h1.below hb, h2.below hb, h3.below hb⟩

theorem pairs_slice1 {w : World} {v : Value} {xs : List (Int × Int)} (h : PairsV w v xs) : ∃ a c, v = .slice a xs.length c := by
  obtain ⟨a, cap, e, _⟩ := h.2.slice
  exact ⟨a, cap, e⟩
/-- Four sets, told by what is in them. -/
theorem risingI_log {b n : Nat} {S : Int → Prop} {p : Int → Bool} (hp : ∀ x, S x ↔ (1 ≤ x ∧ x ≤ 26) ∧ p x = true) (w : World) (h : SetI w b n S) (hn : n ≤ 17592186044416) :
    Calls Try.prog 59 #[.map (some b), .func (.func 60) #[] #[]] w fun e w' => ∃ v, e = .returned v ∧ Ints w' v (labels26.filter p) ∧ Below w.heap.size w w' := by
  refine (risingI_any b n S w h hn).mono ?_
  rintro e w' ⟨v, zs, rfl, hO, h1, h2, h3⟩
  have hz : zs = labels26.filter p := rises_labels h1 fun x => by
    constructor
    · intro hx; exact (hp x).1 ((h3 x (h2 x hx)).1 hx)
    · intro hx; exact (h3 x (okI_of (by omega))).2 ((hp x).2 hx)
  have hle : (labels26.filter p).length ≤ 26 := Nat.le_trans (List.length_filter_le _ _) (by decide)
  rw [hz] at hO
  exact ⟨v, rfl, hO.ints (by omega), hO.2.1⟩
theorem risingP_log {b n : Nat} {S : Int × Int → Prop} {p : Int × Int → Bool} (hp : ∀ x, S x ↔ ((1 ≤ x.1 ∧ x.1 ≤ 26) ∧ 1 ≤ x.2 ∧ x.2 ≤ 26) ∧ p x = true) (w : World) (h : SetP w b n S) (hn : n ≤ 8796093022208) :
    Calls Try.prog 61 #[.map (some b), .func (.func 62) #[] #[]] w fun e w' => ∃ v, e = .returned v ∧ PairsV w' v (pairs26.filter p) ∧ Below w.heap.size w w' := by
  refine (risingP_any b n S w h hn).mono ?_
  rintro e w' ⟨v, zs, rfl, hO, hl, h1, h2, h3⟩
  have hz : zs = pairs26.filter p := rises_pairs h1 fun x => by
    constructor
    · intro hx; exact (hp x).1 ((h3 x (h2 x hx)).1 hx)
    · intro hx; exact (h3 x ⟨okI_of (by omega), okI_of (by omega)⟩).2 ((hp x).2 hx)
  rw [hz] at hO hl
  refine ⟨v, rfl, ⟨by omega, hO.cells (by omega) fun u hu => ?_⟩, hO.2.1⟩
  obtain ⟨x, _, hx⟩ := List.mem_flatMap.1 hu
  exact encP_one x u hx

end Go.Proofs.Ytlknegihhcdhbaa

/- prints: the walk. -/
namespace Go.Proofs.Ytlknegihhcdhbaa
open Go.RowKit
set_option linter.unusedVariables false
set_option linter.unusedSimpArgs false
set_option maxRecDepth 4000

/-- Rows newer than the block R. -/
def RowI (R : Nat) (w : World) (v : Value) (L : List Int) : Prop := w.ownsRow (R + 1) 3 1 v L.length (L.map (Value.int .i64))
def RowQ (R : Nat) (w : World) (v : Value) (L : List (Int × Int)) : Prop := w.ownsRow (R + 1) 38 2 v L.length (cellsP L)
theorem RowI.below {R : Nat} {w w' : World} {v : Value} {L : List Int} (h : RowI R w v L) (hb : Below w.heap.size w w') : RowI R w' v L := ((ownsRow_on h).below hb).now
theorem RowI.set {R : Nat} {w : World} {v : Value} {L : List Int} (h : RowI R w v L) (j : Nat) (u : Value) : RowI R (w.setCell ⟨R, j, none⟩ u) v L := ((ownsRow_on h).set (a := ⟨R, j, none⟩) (fun e => by have := e.2; simp only at this; omega) u).now
theorem RowQ.below {R : Nat} {w w' : World} {v : Value} {L : List (Int × Int)} (h : RowQ R w v L) (hb : Below w.heap.size w w') : RowQ R w' v L := ((ownsRow_on h).below hb).now
theorem RowQ.set {R : Nat} {w : World} {v : Value} {L : List (Int × Int)} (h : RowQ R w v L) (j : Nat) (u : Value) : RowQ R (w.setCell ⟨R, j, none⟩ u) v L := ((ownsRow_on h).set (a := ⟨R, j, none⟩) (fun e => by have := e.2; simp only at this; omega) u).now
theorem RowI.ints {R : Nat} {w : World} {v : Value} {L : List Int} (h : RowI R w v L) (hl : L.length ≤ 26) (hR : R < w.heap.size) : Ints w v L := Own.ints (B := R + 1) (w := w) ⟨h, Below.refl _ _, hR⟩ (by omega)
theorem RowI.slice {R : Nat} {w : World} {v : Value} {L : List Int} (h : RowI R w v L) : ∃ a c, v = .slice a L.length c := by
  rcases h.2 with ⟨rfl, h0⟩ | ⟨g, cap', cur, rfl, _⟩
  · exact ⟨_, _, by rw [h0]⟩
  · exact ⟨_, _, rfl⟩
theorem RowQ.slice {R : Nat} {w : World} {v : Value} {L : List (Int × Int)} (h : RowQ R w v L) : ∃ a c, v = .slice a L.length c := by
  rcases h.2 with ⟨rfl, h0⟩ | ⟨g, cap', cur, rfl, _⟩
  · exact ⟨_, _, by rw [h0]⟩
  · exact ⟨_, _, rfl⟩
theorem RowQ.pairs {R : Nat} {w : World} {v : Value} {L : List (Int × Int)} (h : RowQ R w v L) (hl : L.length ≤ 676) : PairsV w v L := by
  refine ⟨by omega, ownsRow_cells h (by omega) fun u hu => ?_⟩
  obtain ⟨x, _, hx⟩ := List.mem_flatMap.1 hu
  exact encP_one x u hx
theorem row_down {B B' : Nat} {w : World} {e : TypeId} {size : Nat} {v : Value} {n : Nat} {xs : List Value} (h : w.ownsRow B e size v n xs) (hB : B' ≤ B) : w.ownsRow B' e size v n xs := by
  obtain ⟨h1, h2 | ⟨g, cap, cur, r1, r2, r3⟩⟩ := h
  · exact ⟨h1, .inl h2⟩
  · exact ⟨h1, .inr ⟨g, cap, cur, r1, Nat.le_trans hB r2, r3⟩⟩
theorem rowI_of {b n R : Nat} {S : Int → Prop} {p : Int → Bool} (hp : ∀ x, S x ↔ (1 ≤ x ∧ x ≤ 26) ∧ p x = true) (w : World) (h : SetI w b n S) (hn : n ≤ 17592186044416) (hR : R < w.heap.size) :
    Calls Try.prog 59 #[.map (some b), .func (.func 60) #[] #[]] w fun e w' => ∃ v, e = .returned v ∧ RowI R w' v (labels26.filter p) ∧ Below w.heap.size w w' := by
  refine (risingI_any b n S w h hn).mono ?_
  rintro e w' ⟨v, zs, rfl, hO, h1, h2, h3⟩
  have hz : zs = labels26.filter p := rises_labels h1 fun x => by
    constructor
    · intro hx; exact (hp x).1 ((h3 x (h2 x hx)).1 hx)
    · intro hx; exact (h3 x (okI_of (by omega))).2 ((hp x).2 hx)
  rw [hz] at hO
  exact ⟨v, rfl, row_down hO.1 hR, hO.2.1⟩
theorem rowQ_of {b n R : Nat} {S : Int × Int → Prop} {p : Int × Int → Bool} (hp : ∀ x, S x ↔ ((1 ≤ x.1 ∧ x.1 ≤ 26) ∧ 1 ≤ x.2 ∧ x.2 ≤ 26) ∧ p x = true) (w : World) (h : SetP w b n S) (hn : n ≤ 8796093022208) (hR : R < w.heap.size) :
    Calls Try.prog 61 #[.map (some b), .func (.func 62) #[] #[]] w fun e w' => ∃ v, e = .returned v ∧ RowQ R w' v (pairs26.filter p) ∧ Below w.heap.size w w' := by
  refine (risingP_any b n S w h hn).mono ?_
  rintro e w' ⟨v, zs, rfl, hO, hl, h1, h2, h3⟩
  have hz : zs = pairs26.filter p := rises_pairs h1 fun x => by
    constructor
    · intro hx; exact (hp x).1 ((h3 x (h2 x hx)).1 hx)
    · intro hx; exact (h3 x ⟨okI_of (by omega), okI_of (by omega)⟩).2 ((hp x).2 hx)
  rw [hz] at hO
  exact ⟨v, rfl, row_down hO.1 hR, hO.2.1⟩

/-- The result's cells, nothing laid into them yet. -/
def Res4 (w : World) (R : Nat) : Prop := Box4 w R (.slice none 0 0) (.slice none 0 0) (.slice none 0 0) (.slice none 0 0) ∧ ∀ j, w.frozen? ⟨R, j, none⟩ = false
theorem Res4.below {w w' : World} {R : Nat} (h : Res4 w R) (hb : Below w.heap.size w w') : Res4 w' R := ⟨h.1.below hb, fun j => by rw [hb.frozen (p := ⟨R, j, none⟩) h.1.1]; exact h.2 j⟩
theorem res4_new (w : World) : Res4 (w.alloc (.cells #[.slice none 0 0, .slice none 0 0, .slice none 0 0, .slice none 0 0] 26)) w.heap.size :=
  ⟨box4_new w _ _ _ _ _, fun j => World.frozen?_alloc_at _ _ _ _ rfl⟩

/-- Four values are laid into the box R. -/
theorem box4_store {w : World} {R : Nat} {z0 z1 z2 z3 : Value} (h : Box4 w R z0 z1 z2 z3) (v0 v1 v2 v3 : Value) : Box4 ((((w.setCell ⟨R, 0, none⟩ v0).setCell ⟨R, 1, none⟩ v1).setCell ⟨R, 2, none⟩ v2).setCell ⟨R, 3, none⟩ v3) R v0 v1 v2 v3 := by
  obtain ⟨h, h0, h1, h2, h3⟩ := h
  refine ⟨by simpa using h, ?_, ?_, ?_, ?_⟩
  · rw [World.cell?_setCell_other _ _ _ _ (by simp), World.cell?_setCell_other _ _ _ _ (by simp), World.cell?_setCell_other _ _ _ _ (by simp)]
    exact World.cell?_setCell_same _ _ _ h0
  · rw [World.cell?_setCell_other _ _ _ _ (by simp), World.cell?_setCell_other _ _ _ _ (by simp)]
    exact World.cell?_setCell_same _ _ _ ((World.cell?_setCell_other _ _ _ _ (by simp)).trans h1)
  · rw [World.cell?_setCell_other _ _ _ _ (by simp)]
    exact World.cell?_setCell_same _ _ _ ((World.cell?_setCell_other _ _ _ _ (by simp)).trans ((World.cell?_setCell_other _ _ _ _ (by simp)).trans h2))
  · exact World.cell?_setCell_same _ _ _ ((World.cell?_setCell_other _ _ _ _ (by simp)).trans ((World.cell?_setCell_other _ _ _ _ (by simp)).trans ((World.cell?_setCell_other _ _ _ _ (by simp)).trans h3)))

set_option maxHeartbeats 4000000 in
theorem prints_any (b0 b1 b2 b3 n : Nat) (S0 S1 S2 : Int → Prop) (S3 : Int × Int → Prop) (p0 p1 p2 : Int → Bool) (p3 : Int × Int → Bool) (w : World) (s0 : SetI w b0 n S0) (s1 : SetI w b1 n S1) (s2 : SetI w b2 n S2) (s3 : SetP w b3 n S3)
    (e0 : ∀ x, S0 x ↔ (1 ≤ x ∧ x ≤ 26) ∧ p0 x = true) (e1 : ∀ x, S1 x ↔ (1 ≤ x ∧ x ≤ 26) ∧ p1 x = true) (e2 : ∀ x, S2 x ↔ (1 ≤ x ∧ x ≤ 26) ∧ p2 x = true) (e3 : ∀ x, S3 x ↔ ((1 ≤ x.1 ∧ x.1 ≤ 26) ∧ 1 ≤ x.2 ∧ x.2 ≤ 26) ∧ p3 x = true) (hn : n ≤ 1000000) :
    Calls Try.prog 31 #[.agg #[.map (some b0), .map (some b1), .map (some b2), .map (some b3)]] w fun e w' => ∃ v, e = .returned v ∧ PrintsV w' v ⟨labels26.filter p0, labels26.filter p1, labels26.filter p2, pairs26.filter p3⟩ ∧ Below w.heap.size w w' := by
  have hbx := box4_new w (.map (some b0)) (.map (some b1)) (.map (some b2)) (.map (some b3)) 58
  have bb1 := below_new w (.cells #[.map (some b0), .map (some b1), .map (some b2), .map (some b3)] 58)
  have hz1 : (w.alloc (.cells #[.map (some b0), .map (some b1), .map (some b2), .map (some b3)] 58)).heap.size = w.heap.size + 1 := by simp
  obtain ⟨w1, H1⟩ : ∃ u, Hid (w.alloc (.cells #[.map (some b0), .map (some b1), .map (some b2), .map (some b3)] 58) = u) := ⟨_, rfl⟩
  rw [H1.out] at hbx bb1 hz1
  have hRx := res4_new w1
  have bb2 := below_new w1 (.cells #[.slice none 0 0, .slice none 0 0, .slice none 0 0, .slice none 0 0] 26)
  have hz2 : (w1.alloc (.cells #[.slice none 0 0, .slice none 0 0, .slice none 0 0, .slice none 0 0] 26)).heap.size = w.heap.size + 1 + 1 := by simp [hz1]
  obtain ⟨w2, H2⟩ : ∃ u, Hid (w1.alloc (.cells #[.slice none 0 0, .slice none 0 0, .slice none 0 0, .slice none 0 0] 26) = u) := ⟨_, rfl⟩
  rw [H2.out] at hRx bb2 hz2
  rw [hz1] at hRx
  have hb2 := hbx.below bb2
  have bw := bb1.trans (bb2.mono (by omega))
  obtain ⟨xb, HX⟩ : ∃ x, Hid (w.heap.size = x) := ⟨_, rfl⟩
  have t0 := (s0.below bb1).below bb2
  have t1 := (s1.below bb1).below bb2
  have t2 := (s2.below bb1).below bb2
  have t3 := (s3.below bb1).below bb2
  have R0 := fun w h hR => rowI_of (R := xb + 1) (b := b0) (n := n) e0 w h (by omega) hR
  have R1 := fun w h hR => rowI_of (R := xb + 1) (b := b1) (n := n) e1 w h (by omega) hR
  have R2 := fun w h hR => rowI_of (R := xb + 1) (b := b2) (n := n) e2 w h (by omega) hR
  have R3 := fun w h hR => rowQ_of (R := xb + 1) (b := b3) (n := n) e3 w h (by omega) hR
  have k0 : (labels26.filter p0).length ≤ 26 := Nat.le_trans (List.length_filter_le _ _) (by decide)
  have k1 : (labels26.filter p1).length ≤ 26 := Nat.le_trans (List.length_filter_le _ _) (by decide)
  have k2 : (labels26.filter p2).length ≤ 26 := Nat.le_trans (List.length_filter_le _ _) (by decide)
  have k3 : (pairs26.filter p3).length ≤ 676 := Nat.le_trans (List.length_filter_le _ _) (by decide +kernel)
  generalize labels26.filter p0 = L0 at R0 k0 ⊢
  generalize labels26.filter p1 = L1 at R1 k1 ⊢
  generalize labels26.filter p2 = L2 at R2 k2 ⊢
  generalize pairs26.filter p3 = L3 at R3 k3 ⊢
  clear e0 e1 e2 e3 s0 s1 s2 s3 bb1 bb2 hbx
  go_enter Try.func31, Try.ntmps31
  go_upto_region 1 with fail
  rw [H1.out, H2.out]
  rw [HX.out] at hRx hb2 hz2 bw hz1 ⊢
  have bdr := (Below.refl w2.heap.size w2).drew
  replace t0 := t0.below bdr
  replace t1 := t1.below bdr
  replace t2 := t2.below bdr
  replace t3 := t3.below bdr
  have hb3 := hb2.below bdr
  have hR3 := hRx.below bdr
  have bw3 := bw.trans (bdr.mono (by omega))
  have hsz3 : xb + 1 < w2.drew.heap.size := by show _ < w2.heap.size; omega
  obtain ⟨_, c0, c1, c2, c3⟩ := id hb2
  have hne : ¬ xb = xb + 1 := by omega
  clear H1 H2 hz1 hz2 bdr bw hRx
  go_region_held3 (fun w' => w'.cell? ⟨xb, 0, none⟩ = some (.map (some b0)) ∧ w'.cell? ⟨xb, 1, none⟩ = some (.map (some b1)) ∧ w'.cell? ⟨xb, 2, none⟩ = some (.map (some b2)) ∧ w'.cell? ⟨xb, 3, none⟩ = some (.map (some b3)))
    (go_keep)
    (first
      | (go_at_call 59; (with_reducible refine (R0 _ ?_ ?_).mono ?_); (assumption); (assumption); rintro e wa ⟨v0, rfl, r0, ba⟩; obtain ⟨av0, cv0, rfl⟩ := r0.slice; have t0 : SetI wa b0 n S0 := SetA.below (by assumption) ba; have t1 : SetI wa b1 n S1 := SetA.below (by assumption) ba; have t2 : SetI wa b2 n S2 := SetA.below (by assumption) ba; have t3 : SetP wa b3 n S3 := SetA.below (by assumption) ba; have hb : Box4 wa xb (.map (some b0)) (.map (some b1)) (.map (some b2)) (.map (some b3)) := Box4.below (by assumption) ba; have hRx : Res4 wa (xb + 1) := Res4.below (by assumption) ba; obtain ⟨dx, d0, d1, d2, d3⟩ := id hb; have bw : Below xb w wa := (by refine Below.trans ?_ (Below.mono ba ?_); assumption; omega); have hsz : xb + 1 < wa.heap.size := Nat.lt_of_lt_of_le (show xb + 1 < _ from by assumption) (Below.size ba))
      | (go_at_call 59; (with_reducible refine (R1 _ ?_ ?_).mono ?_); (assumption); (assumption); rintro e wb ⟨v1, rfl, r1, bb⟩; obtain ⟨av1, cv1, rfl⟩ := r1.slice; have t0 : SetI wb b0 n S0 := SetA.below (by assumption) bb; have t1 : SetI wb b1 n S1 := SetA.below (by assumption) bb; have t2 : SetI wb b2 n S2 := SetA.below (by assumption) bb; have t3 : SetP wb b3 n S3 := SetA.below (by assumption) bb; have hb : Box4 wb xb (.map (some b0)) (.map (some b1)) (.map (some b2)) (.map (some b3)) := Box4.below (by assumption) bb; have hRx : Res4 wb (xb + 1) := Res4.below (by assumption) bb; obtain ⟨dx, d0, d1, d2, d3⟩ := id hb; have bw : Below xb w wb := (by refine Below.trans ?_ (Below.mono bb ?_); assumption; omega); have hsz : xb + 1 < wb.heap.size := Nat.lt_of_lt_of_le (show xb + 1 < _ from by assumption) (Below.size bb); have r0 : RowI (xb + 1) wb _ L0 := RowI.below (by assumption) bb)
      | (go_at_call 59; (with_reducible refine (R2 _ ?_ ?_).mono ?_); (assumption); (assumption); rintro e wc ⟨v2, rfl, r2, bc⟩; obtain ⟨av2, cv2, rfl⟩ := r2.slice; have t0 : SetI wc b0 n S0 := SetA.below (by assumption) bc; have t1 : SetI wc b1 n S1 := SetA.below (by assumption) bc; have t2 : SetI wc b2 n S2 := SetA.below (by assumption) bc; have t3 : SetP wc b3 n S3 := SetA.below (by assumption) bc; have hb : Box4 wc xb (.map (some b0)) (.map (some b1)) (.map (some b2)) (.map (some b3)) := Box4.below (by assumption) bc; have hRx : Res4 wc (xb + 1) := Res4.below (by assumption) bc; obtain ⟨dx, d0, d1, d2, d3⟩ := id hb; have bw : Below xb w wc := (by refine Below.trans ?_ (Below.mono bc ?_); assumption; omega); have hsz : xb + 1 < wc.heap.size := Nat.lt_of_lt_of_le (show xb + 1 < _ from by assumption) (Below.size bc); have r0 : RowI (xb + 1) wc _ L0 := RowI.below (by assumption) bc; have r1 : RowI (xb + 1) wc _ L1 := RowI.below (by assumption) bc)
      | (go_at_call 61; (with_reducible refine (R3 _ ?_ ?_).mono ?_); (assumption); (assumption); rintro e wd ⟨v3, rfl, r3, bd⟩; obtain ⟨av3, cv3, rfl⟩ := r3.slice; have t0 : SetI wd b0 n S0 := SetA.below (by assumption) bd; have t1 : SetI wd b1 n S1 := SetA.below (by assumption) bd; have t2 : SetI wd b2 n S2 := SetA.below (by assumption) bd; have t3 : SetP wd b3 n S3 := SetA.below (by assumption) bd; have hb : Box4 wd xb (.map (some b0)) (.map (some b1)) (.map (some b2)) (.map (some b3)) := Box4.below (by assumption) bd; have hRx : Res4 wd (xb + 1) := Res4.below (by assumption) bd; obtain ⟨dx, d0, d1, d2, d3⟩ := id hb; have bw : Below xb w wd := (by refine Below.trans ?_ (Below.mono bd ?_); assumption; omega); have hsz : xb + 1 < wd.heap.size := Nat.lt_of_lt_of_le (show xb + 1 < _ from by assumption) (Below.size bd); have r0 : RowI (xb + 1) wd _ L0 := RowI.below (by assumption) bd; have r1 : RowI (xb + 1) wd _ L1 := RowI.below (by assumption) bd; have r2 : RowI (xb + 1) wd _ L2 := RowI.below (by assumption) bd; obtain ⟨⟨gx, g0, g1, g2, g3⟩, gf⟩ := id hRx; have f0 := gf 0; have f1 := gf 1; have f2 := gf 2; have f3 := gf 3))
  have q0 : RowI (xb + 1) wd (.slice av0 L0.length cv0) L0 := by assumption
  have q1 : RowI (xb + 1) wd (.slice av1 L1.length cv1) L1 := by assumption
  have q2 : RowI (xb + 1) wd (.slice av2 L2.length cv2) L2 := by assumption
  have q3 : RowQ (xb + 1) wd (.slice av3 L3.length cv3) L3 := by assumption
  have hB := box4_store hRx.1 (.slice av0 L0.length cv0) (.slice av1 L1.length cv1) (.slice av2 L2.length cv2) (.slice av3 L3.length cv3)
  have q0' := (((q0.set 0 (.slice av0 L0.length cv0)).set 1 (.slice av1 L1.length cv1)).set 2 (.slice av2 L2.length cv2)).set 3 (.slice av3 L3.length cv3)
  have q1' := (((q1.set 0 (.slice av0 L0.length cv0)).set 1 (.slice av1 L1.length cv1)).set 2 (.slice av2 L2.length cv2)).set 3 (.slice av3 L3.length cv3)
  have q2' := (((q2.set 0 (.slice av0 L0.length cv0)).set 1 (.slice av1 L1.length cv1)).set 2 (.slice av2 L2.length cv2)).set 3 (.slice av3 L3.length cv3)
  have q3' := (((q3.set 0 (.slice av0 L0.length cv0)).set 1 (.slice av1 L1.length cv1)).set 2 (.slice av2 L2.length cv2)).set 3 (.slice av3 L3.length cv3)
  have bw' := (((bw.setCell (p := ⟨xb + 1, 0, none⟩) (Nat.le_succ xb) (.slice av0 L0.length cv0)).setCell (p := ⟨xb + 1, 1, none⟩) (Nat.le_succ xb) (.slice av1 L1.length cv1)).setCell (p := ⟨xb + 1, 2, none⟩) (Nat.le_succ xb) (.slice av2 L2.length cv2)).setCell (p := ⟨xb + 1, 3, none⟩) (Nat.le_succ xb) (.slice av3 L3.length cv3)
  obtain ⟨W, HW⟩ : ∃ W, Hid ((((wd.setCell ⟨xb + 1, 0, none⟩ (.slice av0 L0.length cv0)).setCell ⟨xb + 1, 1, none⟩ (.slice av1 L1.length cv1)).setCell ⟨xb + 1, 2, none⟩ (.slice av2 L2.length cv2)).setCell ⟨xb + 1, 3, none⟩ (.slice av3 L3.length cv3) = W) := ⟨_, rfl⟩
  rw [HW.out] at hB q0' q1' q2' q3' bw' ⊢
  go_wp2
  exact bodyPost_ret (v := .agg #[.slice av0 L0.length cv0, .slice av1 L1.length cv1, .slice av2 L2.length cv2, .slice av3 L3.length cv3]) (results_prints rfl rfl hB) rfl ⟨_, rfl, ⟨_, _, _, _, rfl, q0'.ints k0 hB.1, q1'.ints k1 hB.1, q2'.ints k2 hB.1, q3'.pairs k3⟩, (by rw [HX.out]; exact bw')⟩

end Go.Proofs.Ytlknegihhcdhbaa

/- Of: what a log shows. -/
namespace Go.Proofs.Ytlknegihhcdhbaa
open Go.RowKit
set_option linter.unusedVariables false
set_option linter.unusedSimpArgs false
set_option maxRecDepth 4000

theorem pairsV_nil (w : World) : PairsV w (.slice none 0 0) [] := ⟨by simp, CellsV.nil w 2 _⟩
theorem printsV_none (w : World) : PrintsV w (.agg #[.slice none 0 0, .slice none 0 0, .slice none 0 0, .slice none 0 0]) noPrints := ⟨_, _, _, _, rfl, Ints.nil _, Ints.nil _, Ints.nil _, pairsV_nil _⟩

theorem Box4.blk {w w' : World} {x : Nat} {v0 v1 v2 v3 : Value} (h : Box4 w x v0 v1 v2 v3) (hb : w'.heap[x]? = w.heap[x]?) (hl : x < w'.heap.size) : Box4 w' x v0 v1 v2 v3 :=
  ⟨hl, (World.cell?_of_block (a := ⟨x, 0, none⟩) hb).trans h.2.1, (World.cell?_of_block (a := ⟨x, 1, none⟩) hb).trans h.2.2.1, (World.cell?_of_block (a := ⟨x, 2, none⟩) hb).trans h.2.2.2.1, (World.cell?_of_block (a := ⟨x, 3, none⟩) hb).trans h.2.2.2.2⟩
theorem ints_putS {w : World} {v : Value} {xs : List Int} {p : Addr} {a : Option Addr} {l c : Nat} (h : Ints w v xs) (hp : w.cell? p = some (.slice a l c)) (u : Value) : Ints (w.setCell p u) v xs := by
  obtain ⟨a', len, cap, e, hl, hm, hs, hr⟩ := h
  refine ⟨a', len, cap, e, hl, hm, hs, fun j hj => ?_⟩
  obtain ⟨b, off, ha, hb, hc⟩ := hr j hj
  refine ⟨b, off, ha, by simpa [World.setCell] using hb, ?_⟩
  rw [World.cell?_setCell_other _ _ _ _ (by intro e; rw [← e, hp] at hc; cases hc)]
  exact hc
theorem pairs_putS {w : World} {v : Value} {xs : List (Int × Int)} {p : Addr} {a : Option Addr} {l c : Nat} (h : PairsV w v xs) (hp : w.cell? p = some (.slice a l c)) (u : Value) : PairsV (w.setCell p u) v xs := by
  obtain ⟨h0, a', cap, e, hl, hm, hs, h1, hr⟩ := h
  refine ⟨h0, a', cap, e, hl, hm, hs, h1, fun j y hj => ?_⟩
  obtain ⟨b, off, ha, hb, hc⟩ := hr j y hj
  refine ⟨b, off, ha, by simpa [World.setCell] using hb, ?_⟩
  have hy : ∃ n, y = .int .i64 n := by
    obtain ⟨x, _, hx⟩ := List.mem_flatMap.1 (List.mem_of_getElem? hj)
    simp only [encP, List.mem_cons, List.not_mem_nil, or_false] at hx
    rcases hx with rfl | rfl
    · exact ⟨_, rfl⟩
    · exact ⟨_, rfl⟩
  obtain ⟨n, rfl⟩ := hy
  rw [World.cell?_setCell_other _ _ _ _ (by intro e; rw [← e, hp] at hc; cases hc)]
  exact hc
theorem store4 {Q : World → Prop} (hQ : ∀ (w : World) p a l c u, Q w → w.cell? p = some (.slice a l c) → Q (w.setCell p u)) {w : World} {R : Nat} (hB : Box4 w R (.slice none 0 0) (.slice none 0 0) (.slice none 0 0) (.slice none 0 0)) (h : Q w) (v0 v1 v2 v3 : Value) :
    Q ((((w.setCell ⟨R, 0, none⟩ v0).setCell ⟨R, 1, none⟩ v1).setCell ⟨R, 2, none⟩ v2).setCell ⟨R, 3, none⟩ v3) := by
  obtain ⟨_, h0, h1, h2, h3⟩ := hB
  exact hQ _ _ _ _ _ _ (hQ _ _ _ _ _ _ (hQ _ _ _ _ _ _ (hQ _ _ _ _ _ _ h h0) ((World.cell?_setCell_other _ _ _ _ (by simp)).trans h1)) ((World.cell?_setCell_other _ _ _ _ (by simp)).trans ((World.cell?_setCell_other _ _ _ _ (by simp)).trans h2)))
    ((World.cell?_setCell_other _ _ _ _ (by simp)).trans ((World.cell?_setCell_other _ _ _ _ (by simp)).trans ((World.cell?_setCell_other _ _ _ _ (by simp)).trans h3)))
theorem ints_slice {w : World} {v : Value} {xs : List Int} (h : Ints w v xs) : ∃ a c, v = .slice a xs.length c := by
  obtain ⟨a, len, cap, e, hl, _⟩ := h
  exact ⟨a, cap, by rw [e, hl]⟩
theorem pairs_slice {w : World} {v : Value} {xs : List (Int × Int)} (h : PairsV w v xs) : ∃ a c, v = .slice a xs.length c := by
  obtain ⟨a, cap, e, _⟩ := h.2.slice
  exact ⟨a, cap, e⟩
/-- The four sets, as they are made. -/
def madeQ (w0 : World) (R : Nat) : World := ((((w0.alloc (.map #[] 0)).alloc (.map #[] 0)).alloc (.map #[] 0)).alloc (.map #[] 0)).alloc (.cells #[.map (some (R + 1)), .map (some (R + 1 + 1)), .map (some (R + 1 + 1 + 1)), .map (some (R + 1 + 1 + 1 + 1))] 58)
theorem four_maps (w0 : World) (R : Nat) (hz : w0.heap.size = R + 1) :
    SeenAt w0 (madeQ w0 R) (madeQ w0 R) (R + 1) (R + 1 + 1) (R + 1 + 1 + 1) (R + 1 + 1 + 1 + 1) 0 (fun _ => False) (fun _ => False) (fun _ => False) (fun _ => False) ∧
      Box4 (madeQ w0 R) (R + 1 + 1 + 1 + 1 + 1) (.map (some (R + 1))) (.map (some (R + 1 + 1))) (.map (some (R + 1 + 1 + 1))) (.map (some (R + 1 + 1 + 1 + 1))) := by
  unfold madeQ
  have h1 : SetI (w0.alloc (.map #[] 0)) w0.heap.size 0 (fun _ => False) := setA_made w0
  have b1 := below_new w0 (.map #[] 0)
  have z1 : (w0.alloc (.map #[] 0)).heap.size = R + 1 + 1 := by simp [hz]
  generalize w0.alloc (.map #[] 0) = w1 at h1 b1 z1 ⊢
  have h2 : SetI (w1.alloc (.map #[] 0)) w1.heap.size 0 (fun _ => False) := setA_made w1
  have b2 := below_new w1 (.map #[] 0)
  have z2 : (w1.alloc (.map #[] 0)).heap.size = R + 1 + 1 + 1 := by simp [z1]
  generalize w1.alloc (.map #[] 0) = w2 at h2 b2 z2 ⊢
  have h3 : SetI (w2.alloc (.map #[] 0)) w2.heap.size 0 (fun _ => False) := setA_made w2
  have b3 := below_new w2 (.map #[] 0)
  have z3 : (w2.alloc (.map #[] 0)).heap.size = R + 1 + 1 + 1 + 1 := by simp [z2]
  generalize w2.alloc (.map #[] 0) = w3 at h3 b3 z3 ⊢
  have h4 : SetP (w3.alloc (.map #[] 0)) w3.heap.size 0 (fun _ => False) := setA_made w3
  have b4 := below_new w3 (.map #[] 0)
  have z4 : (w3.alloc (.map #[] 0)).heap.size = R + 1 + 1 + 1 + 1 + 1 := by simp [z3]
  generalize w3.alloc (.map #[] 0) = w4 at h4 b4 z4 ⊢
  have hb := box4_new w4 (.map (some (R + 1))) (.map (some (R + 1 + 1))) (.map (some (R + 1 + 1 + 1))) (.map (some (R + 1 + 1 + 1 + 1))) 58
  have b5 := below_new w4 (.cells #[.map (some (R + 1)), .map (some (R + 1 + 1)), .map (some (R + 1 + 1 + 1)), .map (some (R + 1 + 1 + 1 + 1))] 58)
  generalize w4.alloc (.cells #[.map (some (R + 1)), .map (some (R + 1 + 1)), .map (some (R + 1 + 1 + 1)), .map (some (R + 1 + 1 + 1 + 1))] 58) = w5 at hb b5 ⊢
  rw [hz] at h1
  rw [z1] at h2
  rw [z2] at h3
  rw [z3] at h4
  rw [z4] at hb
  exact ⟨⟨(((h1.below b2).below b3).below b4).below b5, ((h2.below b3).below b4).below b5, (h3.below b4).below b5, h4.below b5, by rw [hz]; omega, by omega,
    (((b1.trans (b2.mono (by omega))).trans (b3.mono (by omega))).trans (b4.mono (by omega))).trans (b5.mono (by omega)), Nat.le_refl _, fun _ _ _ _ _ _ => rfl⟩, hb⟩

set_option maxHeartbeats 4000000 in
theorem of_any (v : Value) (log : List (List Int)) (w : World) (hv : Lists w v log) :
    Calls Try.prog 7 #[v] w fun e w' => ∃ r, e = .returned (.tuple #[r, .int .i64 (ofL log).2]) ∧ PrintsV w' r (ofL log).1 ∧ Below w.heap.size w w' := by
  have hR := res4_new w
  have bw := below_new w (.cells #[.slice none 0 0, .slice none 0 0, .slice none 0 0, .slice none 0 0] 26)
  have hz0 : (w.alloc (.cells #[.slice none 0 0, .slice none 0 0, .slice none 0 0, .slice none 0 0] 26)).heap.size = w.heap.size + 1 := by simp
  obtain ⟨w0, H0⟩ : ∃ u, Hid (w.alloc (.cells #[.slice none 0 0, .slice none 0 0, .slice none 0 0, .slice none 0 0] 26) = u) := ⟨_, rfl⟩
  rw [H0.out] at hR bw hz0
  have hv0 := hv.below bw
  obtain ⟨R, HR⟩ : ∃ x, Hid (w.heap.size = x) := ⟨_, rfl⟩
  rw [HR.out] at hR hz0
  by_cases hw : wrongV log = 0
  · obtain ⟨hl60, hts⟩ := wrongV_ok hw
    have hw1 := wrong_any v log w0 hv0
    have HO : Hid (ofL log = (printsOf log, 0)) := by show _ = _; unfold ofL; rw [if_pos hw]
    rw [HO.out]
    rw [hw] at hw1
    obtain ⟨a, len, cap, rfl, hlen, hmx, hsh, hr⟩ := id hv0
    have Hlen : Hid (log.length = len) := hlen
    rw [Hlen.out] at hl60
    have HL : Hid (∀ t ∈ log, t.length ≤ 60 ∧ ∀ x ∈ t, 1 ≤ x ∧ x ≤ 26) := hts
    clear hlen hsh hr hw hts
    have hmm := @run_makeMap Try.prog
    obtain ⟨hS0, hb0⟩ := four_maps w0 R hz0
    obtain ⟨wq, HQ⟩ : ∃ u, Hid (madeQ w0 R = u) := ⟨_, rfl⟩
    rw [HQ.out] at hS0 hb0
    have hS := (hS0.same (T0 := SomeT (fun t x => x ∈ t) log 0) (T1 := SomeT firstP log 0) (T2 := SomeT lastP log 0) (T3 := SomeT (fun t p => behP t t.length p) log 0) (fun x => (someT_zero _ log x).symm) (fun x => (someT_zero _ log x).symm) (fun x => (someT_zero _ log x).symm) (fun x => (someT_zero _ log x).symm)).mono (n' := 200 * 0) (by omega)
    clear hS0
    go_enter Try.func7, Try.ntmps7
    go_upto_region 1 with fail
    rw [H0.out, HR.out]
    go_upto_region 5 with (go_at_call 9; refine hw1.mono ?_; rintro e w2 ⟨rfl, hq⟩; rw [hq]; clear hq)
    change Code.wp _ _ _ _ (madeQ w0 R)
    rw [HQ.out]
    clear hmm hw1
    obtain ⟨xb, HX⟩ : ∃ x, Hid (R + 1 + 1 + 1 + 1 + 1 = x) := ⟨_, rfl⟩
    have hxR : Hid (xb ≠ R + 1 ∧ xb ≠ R + 1 + 1 ∧ xb ≠ R + 1 + 1 + 1 ∧ xb ≠ R + 1 + 1 + 1 + 1) := by show _ ∧ _; have := HX.out; omega
    rw [HX.out] at hb0 ⊢
    go_wp2_with fail
    go_loopg [21] len (fun gk i' wr => ∃ k : Nat, k + gk = len ∧ i' = .int .i64 (k : Int) ∧ SeenAt w0 wq wr (R + 1) (R + 1 + 1) (R + 1 + 1 + 1) (R + 1 + 1 + 1 + 1) (200 * k) (SomeT (fun t x => x ∈ t) log k) (SomeT firstP log k) (SomeT lastP log k) (SomeT (fun t p => behP t t.length p) log k))
    case atStart => exact ⟨0, by omega, rfl, hS⟩
    case round =>
      clear hS
      obtain ⟨k, hkg, rfl, hS⟩ := hrel
      have hbr := hb0.blk (hS.kept xb hb0.1 hxR.out.1 hxR.out.2.1 hxR.out.2.2.1 hxR.out.2.2.2) (Nat.lt_of_lt_of_le hb0.1 hS.sizeq)
      obtain ⟨x0, x1, x2, x3, x4⟩ := id hbr
      by_cases hk : k < len
      · obtain ⟨tb, tf, u, rfl, hlt, c2w, hu⟩ := lists_at hv0 hk
        have c2 := (hS.below.cell (p := ⟨tb, tf + k, none⟩) hlt).trans c2w
        clear c2w
        obtain ⟨t, HT⟩ : ∃ t, Hid (log.getD k [] = t) := ⟨_, rfl⟩
        have HTm : Hid (t.length ≤ 60 ∧ ∀ x ∈ t, 1 ≤ x ∧ x ≤ 26) := by rw [← HT.out]; exact HL.out _ (at_lists (by rw [Hlen.out]; exact hk))
        rw [HT.out] at hu
        have hlook := look_any w0 wq wr _ _ _ _ (200 * k) _ _ _ _ hS u t hu (fun x hx => okI_of (by have := HTm.out.2 x hx; omega)) HTm.out.1 (by omega)
        have hkl : k < log.length := by rw [Hlen.out]; exact hk
        go_wp2_with (go_at_call 30; refine hlook.mono ?_; rintro e w3 ⟨rfl, hS3⟩)
        have hS4 := hS3.same (T0 := SomeT (fun t x => x ∈ t) log (k + 1)) (T1 := SomeT firstP log (k + 1)) (T2 := SomeT lastP log (k + 1)) (T3 := SomeT (fun t p => behP t t.length p) log (k + 1))
          (fun x => by rw [← HT.out]; exact someT_succ (f := fun t x => x ∈ t) hkl x) (fun x => by rw [← HT.out]; exact someT_succ hkl x) (fun x => by rw [← HT.out]; exact someT_succ hkl x) (fun x => by rw [← HT.out]; exact someT_succ (f := fun t p => behP t t.length p) hkl x)
        clear hS hS3 hbr x0 x1 x2 x3 x4 c2 hlook
        go_roundg (gk - 1)
        case measure => omega
        case rel => exact ⟨k + 1, by omega, by go_num, by rw [show 200 * (k + 1) = 200 * k + 200 by omega]; exact hS4⟩
      · obtain rfl : k = len := by omega
        have HK : Hid (∀ t ∈ log, ∀ x ∈ t, 1 ≤ x ∧ x ≤ 26) := fun t ht => (HL.out t ht).2
        have hS' := hS
        rw [← Hlen.out] at hS'
        have hpr := prints_any _ _ _ _ (200 * log.length) _ _ _ _ _ _ _ _ wr hS'.s0 hS'.s1 hS'.s2 hS'.s3 (someT_label (g := inT) HK.out in_iff (fun t x h => h)) (someT_label (g := firstT) HK.out first_iff (fun t x h => firstP_mem h)) (someT_label (g := lastT) HK.out last_iff (fun t x h => lastP_mem h)) (someT_pair HK.out) (by rw [Hlen.out]; omega)
        clear hS'
        have HPr : Hid (PrintsL.mk (labels26.filter fun a => log.any (inT a)) (labels26.filter fun a => log.any (firstT a)) (labels26.filter fun a => log.any (lastT a)) (pairs26.filter fun p => log.any (behindT p)) = printsOf log) := rfl
        have hRr := hR.below (hS.below.mono (Nat.le_refl _))
        have hwr0 := hS.below
        clear hbr
        obtain ⟨L0, HL0⟩ : ∃ l, Hid ((labels26.filter fun a => log.any (inT a)) = l) := ⟨_, rfl⟩
        obtain ⟨L1, HL1⟩ : ∃ l, Hid ((labels26.filter fun a => log.any (firstT a)) = l) := ⟨_, rfl⟩
        obtain ⟨L2, HL2⟩ : ∃ l, Hid ((labels26.filter fun a => log.any (lastT a)) = l) := ⟨_, rfl⟩
        obtain ⟨L3, HL3⟩ : ∃ l, Hid ((pairs26.filter fun p => log.any (behindT p)) = l) := ⟨_, rfl⟩
        rw [HL0.out, HL1.out, HL2.out, HL3.out] at HPr
        have hpr' : Calls Try.prog 31 #[.agg #[.map (some (R + 1)), .map (some (R + 1 + 1)), .map (some (R + 1 + 1 + 1)), .map (some (R + 1 + 1 + 1 + 1))]] wr fun e w' => ∃ v, e = .returned v ∧ PrintsV w' v ⟨L0, L1, L2, L3⟩ ∧ Below wr.heap.size wr w' := by
          rw [← HL0.out, ← HL1.out, ← HL2.out, ← HL3.out]; exact hpr
        clear hpr hS
        go_wp2_with (go_at_call 31; refine hpr'.mono ?_; rintro e w5 ⟨r, rfl, hP, b5⟩; obtain ⟨v0, v1, v2, v3, rfl, p0, p1, p2, p3⟩ := hP; obtain ⟨a0, c0, rfl⟩ := ints_slice p0; obtain ⟨a1, c1, rfl⟩ := ints_slice p1; obtain ⟨a2, c2, rfl⟩ := ints_slice p2; obtain ⟨a3, c3, rfl⟩ := pairs_slice p3; have hR5 := hRr.below b5; obtain ⟨⟨gx, g0, g1, g2, g3⟩, gf⟩ := id hR5; have f0 := gf 0; have f1 := gf 1; have f2 := gf 2; have f3 := gf 3)
        have hB := box4_store hR5.1 (.slice a0 L0.length c0) (.slice a1 L1.length c1) (.slice a2 L2.length c2) (.slice a3 L3.length c3)
        have q0 := store4 (Q := fun w => Ints w (.slice a0 L0.length c0) L0) (fun w p a l c u h hp => ints_putS h hp u) hR5.1 p0 (.slice a0 L0.length c0) (.slice a1 L1.length c1) (.slice a2 L2.length c2) (.slice a3 L3.length c3)
        have q1 := store4 (Q := fun w => Ints w (.slice a1 L1.length c1) L1) (fun w p a l c u h hp => ints_putS h hp u) hR5.1 p1 (.slice a0 L0.length c0) (.slice a1 L1.length c1) (.slice a2 L2.length c2) (.slice a3 L3.length c3)
        have q2 := store4 (Q := fun w => Ints w (.slice a2 L2.length c2) L2) (fun w p a l c u h hp => ints_putS h hp u) hR5.1 p2 (.slice a0 L0.length c0) (.slice a1 L1.length c1) (.slice a2 L2.length c2) (.slice a3 L3.length c3)
        have q3 := store4 (Q := fun w => PairsV w (.slice a3 L3.length c3) L3) (fun w p a l c u h hp => pairs_putS h hp u) hR5.1 p3 (.slice a0 L0.length c0) (.slice a1 L1.length c1) (.slice a2 L2.length c2) (.slice a3 L3.length c3)
        have bw5 : Below w.heap.size w w5 := (bw.trans (hwr0.mono (by rw [HR.out]; omega))).trans (b5.mono (by rw [HR.out]; have := hwr0.size; omega))
        have bw' := (((bw5.setCell (p := ⟨R, 0, none⟩) (by rw [HR.out]; exact Nat.le_refl _) (.slice a0 L0.length c0)).setCell (p := ⟨R, 1, none⟩) (by rw [HR.out]; exact Nat.le_refl _) (.slice a1 L1.length c1)).setCell (p := ⟨R, 2, none⟩) (by rw [HR.out]; exact Nat.le_refl _) (.slice a2 L2.length c2)).setCell (p := ⟨R, 3, none⟩) (by rw [HR.out]; exact Nat.le_refl _) (.slice a3 L3.length c3)
        obtain ⟨W, HW⟩ : ∃ W, Hid ((((w5.setCell ⟨R, 0, none⟩ (.slice a0 L0.length c0)).setCell ⟨R, 1, none⟩ (.slice a1 L1.length c1)).setCell ⟨R, 2, none⟩ (.slice a2 L2.length c2)).setCell ⟨R, 3, none⟩ (.slice a3 L3.length c3) = W) := ⟨_, rfl⟩
        rw [HW.out] at hB bw' q0 q1 q2 q3 ⊢
        exact bodyPost_ret (v := .tuple #[.agg #[.slice a0 L0.length c0, .slice a1 L1.length c1, .slice a2 L2.length c2, .slice a3 L3.length c3], .int .i64 0]) (results_prints1 rfl rfl rfl hB) rfl ⟨_, rfl, by rw [← HPr.out]; exact ⟨_, _, _, _, rfl, q0, q1, q2, q3⟩, bw'⟩
  · have hw1 := wrong_any v log w0 hv0
    have HO : Hid (ofL log = (noPrints, wrongV log)) := by show _ = _; unfold ofL; rw [if_neg hw]
    rw [HO.out]
    generalize wrongV log = q at hw hw1 ⊢
    obtain ⟨⟨gx, g0, g1, g2, g3⟩, gf⟩ := id hR
    have f0 := gf 0
    have f1 := gf 1
    have f2 := gf 2
    have f3 := gf 3
    have hB := box4_store hR.1 (.slice none 0 0) (.slice none 0 0) (.slice none 0 0) (.slice none 0 0)
    have bw' := (((bw.setCell (p := ⟨R, 0, none⟩) (by rw [HR.out]; exact Nat.le_refl _) (.slice none 0 0)).setCell (p := ⟨R, 1, none⟩) (by rw [HR.out]; exact Nat.le_refl _) (.slice none 0 0)).setCell (p := ⟨R, 2, none⟩) (by rw [HR.out]; exact Nat.le_refl _) (.slice none 0 0)).setCell (p := ⟨R, 3, none⟩) (by rw [HR.out]; exact Nat.le_refl _) (.slice none 0 0)
    obtain ⟨W, HW⟩ : ∃ W, Hid ((((w0.setCell ⟨R, 0, none⟩ (.slice none 0 0)).setCell ⟨R, 1, none⟩ (.slice none 0 0)).setCell ⟨R, 2, none⟩ (.slice none 0 0)).setCell ⟨R, 3, none⟩ (.slice none 0 0) = W) := ⟨_, rfl⟩
    rw [HW.out] at hB bw'
    go_enter Try.func7, Try.ntmps7
    go_upto_region 1 with fail
    rw [H0.out, HR.out]
    go_wp2_with (go_at_call 9; refine hw1.mono ?_; rintro e w2 ⟨rfl, rfl⟩)
    rw [HW.out]
    exact bodyPost_ret (v := .tuple #[.agg #[.slice none 0 0, .slice none 0 0, .slice none 0 0, .slice none 0 0], .int .i64 q]) (results_prints1 rfl rfl rfl hB) rfl ⟨_, rfl, printsV_none _, bw'⟩

end Go.Proofs.Ytlknegihhcdhbaa

/- The document's own, of tracks: what is asked of a trace. -/
namespace Go.Proofs.Ytlknegihhcdhbaa
open Go.RowKit
set_option linter.unusedVariables false
set_option linter.unusedSimpArgs false
set_option maxRecDepth 4000

theorem vof2_asks (w0 : World) (x : Nat) (a : Int) (hx : Box1 w0 x (.int .i64 a)) : AsksQ w0 34 (.pointer (some ⟨x, 0, none⟩)) (inT a) := by
  intro v t w hb hv
  have hx1 := (hx.below hb).2
  obtain ⟨va, vc, rfl⟩ := ints_slice hv
  have hc : Calls Try.prog 26 #[.slice va t.length vc, .int .i64 a] w fun e w' => e = .returned (.bool (inT a t)) ∧ w' = w := contains_any _ t a w hv
  generalize inT a t = q at hc ⊢
  go_enter Try.func34, Try.ntmps34
  go_wp2_with (go_at_call 26; refine hc.mono ?_; rintro e w5 ⟨rfl, rfl⟩)
  go_ret
  exact ⟨rfl, Below.refl _ _⟩

set_option maxHeartbeats 1000000 in
theorem vbehind_any (v : Value) (t : List Int) (p q : Int) (w : World) (hv : Ints w v t) :
    Calls Try.prog 38 #[v, .int .i64 p, .int .i64 q] w fun e w' => e = .returned (.bool (behindT (p, q) t)) ∧ w' = w := by
  obtain ⟨a, len, cap, rfl, hlen, hmx, hsh, hr⟩ := id hv
  have Hlen : Hid (t.length = len) := hlen
  clear hlen hsh hr
  have HV : Hid (Ints w (.slice a len cap) t) := hv
  obtain ⟨r, Hr⟩ : ∃ r, Hid (behindT (p, q) t = r) := ⟨_, rfl⟩
  rw [Hr.out]
  clear hv
  go_enter Try.func38, Try.ntmps38
  go_wp2_with fail
  go_loopg [10] len (fun gk i' wr => ∃ k : Nat, k + gk = len ∧ i' = .int .i64 (k : Int) ∧ wr = w ∧ Hid (¬ behP t k (p, q)))
  case atStart => exact ⟨0, by omega, rfl, rfl, fun ⟨j, h0, h1, _⟩ => by omega⟩
  case round =>
    obtain ⟨k, hkg, rfl, rfl, HN⟩ := hrel
    by_cases hk : k < len
    · obtain ⟨b, o, rfl, hlt, c1⟩ := ints_atL HV.out hk
      obtain ⟨z, HZ⟩ : ∃ z, Hid (nth t k = z) := ⟨_, rfl⟩
      rw [HZ.out] at c1
      by_cases hk0 : 0 < k
      · obtain ⟨m, Hm⟩ : ∃ m, Hid (k - 1 = m) := ⟨_, rfl⟩
        have hm1 : m + 1 = k := by have := Hm.out; omega
        obtain ⟨b', o', e, _, c2⟩ := ints_atL HV.out (k := m) (by omega)
        injection e with e
        injection e with e1 e2
        subst e1 e2
        obtain ⟨y, HY⟩ : ∃ y, Hid (nth t m = y) := ⟨_, rfl⟩
        rw [HY.out] at c2
        have wL : IntKind.i64.wrap ((k : Int) - 1) = (m : Int) := by rw [show ((k : Int) - 1) = (m : Int) by omega]; exact Go.IntWalk.i64_in _ ⟨by omega, by omega⟩
        have iL : (0 : Int) ≤ (m : Int) := by omega
        have jL : (m : Int) < (len : Int) := by omega
        have kL : m < len := by omega
        have i0 : (0 : Int) < (k : Int) := by omega
        have HS : Hid (behP t (k + 1) (p, q) ↔ (p = y ∧ q = z)) := by
          show _ ↔ _
          rw [behP_succ, Hm.out, HY.out, HZ.out]
          constructor
          · rintro (h | ⟨_, h⟩)
            · exact absurd h HN.out
            · injection h with h1 h2; exact ⟨h1, h2⟩
          · rintro ⟨rfl, rfl⟩; exact .inr ⟨hk0, rfl⟩
        by_cases hp : y = p
        · by_cases hq : z = q
          · have hr1 : Hid (r = true) := by
              show _ = _
              rw [← Hr.out, ← beh_iff]
              obtain ⟨j, h0, h1, h2, h3⟩ := HS.out.2 ⟨hp.symm, hq.symm⟩
              exact ⟨j, h0, by rw [Hlen.out]; omega, h2, h3⟩
            subst hp hq
            go_wp2
            go_ret
            exact ⟨(by rw [hr1.out]; rfl), rfl⟩
          · have HN2 : Hid (¬ behP t (k + 1) (p, q)) := fun h => hq (HS.out.1 h).2.symm
            go_wp2
            go_roundg (gk - 1)
            case measure => omega
            case rel => exact ⟨k + 1, by omega, by go_num, rfl, HN2⟩
        · have HN2 : Hid (¬ behP t (k + 1) (p, q)) := fun h => hp (HS.out.1 h).1.symm
          go_wp2
          go_roundg (gk - 1)
          case measure => omega
          case rel => exact ⟨k + 1, by omega, by go_num, rfl, HN2⟩
      · have HN2 : Hid (¬ behP t (k + 1) (p, q)) := fun ⟨j, h0, h1, _⟩ => by omega
        have i0 : ¬ (0 : Int) < (k : Int) := by omega
        go_wp2
        go_roundg (gk - 1)
        case measure => omega
        case rel => exact ⟨k + 1, by omega, by go_num, rfl, HN2⟩
    · obtain rfl : k = len := by omega
      have hr0 : Hid (r = false) := by
        show _ = _
        rw [← Hr.out, Bool.eq_false_iff]
        intro h
        have := (beh_iff t (p, q)).2 h
        rw [Hlen.out] at this
        exact HN.out this
      go_wp2
      go_ret
      exact ⟨(by rw [hr0.out]; rfl), rfl⟩

theorem vof5_asks (w0 : World) (x y : Nat) (a b : Int) (hx : Box1 w0 x (.int .i64 a)) (hy : Box1 w0 y (.int .i64 b)) : AsksLs2 w0 37 (.pointer (some ⟨x, 0, none⟩)) (.pointer (some ⟨y, 0, none⟩)) (behindT (a, b)) := by
  intro v t w hb hv
  have hx1 := (hx.below hb).2
  have hy1 := (hy.below hb).2
  obtain ⟨va, vc, rfl⟩ := ints_slice hv
  have hc := vbehind_any _ t a b w hv
  generalize behindT (a, b) t = q at hc ⊢
  go_enter Try.func37, Try.ntmps37
  go_wp2_with (go_at_call 38; refine hc.mono ?_; rintro e w5 ⟨rfl, rfl⟩)
  go_ret
  exact ⟨rfl, Below.refl _ _⟩

end Go.Proofs.Ytlknegihhcdhbaa

/- The document's own, of tracks: whether a trace begins, ends with a label. -/
namespace Go.Proofs.Ytlknegihhcdhbaa
open Go.RowKit
set_option linter.unusedVariables false
set_option linter.unusedSimpArgs false
set_option maxRecDepth 4000

theorem first_nth {t : List Int} (a : Int) (h : t ≠ []) : firstT a t = (nth t 0 == a) := by
  rw [Bool.eq_iff_iff, ← first_iff, beq_iff_eq]
  unfold firstP
  exact ⟨fun q => q.2.symm, fun q => ⟨h, q.symm⟩⟩
theorem last_nth {t : List Int} (a : Int) (h : t ≠ []) : lastT a t = (nth t (t.length - 1) == a) := by
  rw [Bool.eq_iff_iff, ← last_iff, beq_iff_eq]
  unfold lastP
  exact ⟨fun q => q.2.symm, fun q => ⟨h, q.symm⟩⟩

set_option maxHeartbeats 1000000 in
theorem vof3_asks (w0 : World) (x : Nat) (a : Int) (hx : Box1 w0 x (.int .i64 a)) : AsksQ w0 35 (.pointer (some ⟨x, 0, none⟩)) (firstT a) := by
  intro v t w hb hv
  have hx1 := (hx.below hb).2
  obtain ⟨va, len, vc, rfl, hlen, hmx, hsh, hr⟩ := id hv
  clear hsh hr
  by_cases hz : len = 0
  · subst hz
    have ht0 : t = [] := List.length_eq_zero_iff.1 hlen
    subst ht0
    show Calls _ _ _ _ fun e w' => e = .returned (.bool false) ∧ _
    go_enter Try.func35, Try.ntmps35
    go_wp2_with fail
    go_quiet (fail)
    go_wp2
    go_ret
    exact ⟨rfl, below_drewN (Below.refl _ _) _⟩
  · have hpos : 0 < len := by omega
    have hne : t ≠ [] := fun e => by rw [e] at hlen; exact hz hlen.symm
    obtain ⟨b, o, rfl, hlt, c1⟩ := ints_atL hv hpos
    rw [first_nth a hne]
    generalize nth t 0 = z at c1 ⊢
    rw [Nat.add_zero] at c1
    have i0 : (0 : Int) < (len : Int) := by omega
    go_enter Try.func35, Try.ntmps35
    go_wp2_with fail
    go_quiet (fail)
    go_wp2
    go_ret
    exact ⟨rfl, below_drewN (Below.refl _ _) _⟩

set_option maxHeartbeats 1000000 in
theorem vof4_asks (w0 : World) (x : Nat) (a : Int) (hx : Box1 w0 x (.int .i64 a)) : AsksQ w0 36 (.pointer (some ⟨x, 0, none⟩)) (lastT a) := by
  intro v t w hb hv
  have hx1 := (hx.below hb).2
  obtain ⟨va, len, vc, rfl, hlen, hmx, hsh, hr⟩ := id hv
  clear hsh hr
  by_cases hz : len = 0
  · subst hz
    have ht0 : t = [] := List.length_eq_zero_iff.1 hlen
    subst ht0
    show Calls _ _ _ _ fun e w' => e = .returned (.bool false) ∧ _
    go_enter Try.func36, Try.ntmps36
    go_wp2_with fail
    go_quiet (fail)
    go_wp2
    go_ret
    exact ⟨rfl, below_drewN (Below.refl _ _) _⟩
  · have hpos : 0 < len := by omega
    have hne : t ≠ [] := fun e => by rw [e] at hlen; exact hz hlen.symm
    obtain ⟨m, Hm⟩ : ∃ m, Hid (len - 1 = m) := ⟨_, rfl⟩
    have hm1 : m + 1 = len := by have := Hm.out; omega
    obtain ⟨b, o, rfl, hlt, c1⟩ := ints_atL hv (k := m) (by omega)
    have wL : IntKind.i64.wrap ((len : Int) - 1) = (m : Int) := by rw [show ((len : Int) - 1) = (m : Int) by omega]; exact Go.IntWalk.i64_in _ ⟨by omega, by omega⟩
    have iL : (0 : Int) ≤ (m : Int) := by omega
    have jL : (m : Int) < (len : Int) := by omega
    have kL : m < len := by omega
    rw [last_nth a hne, hlen]
    rw [Hm.out]
    generalize nth t m = z at c1 ⊢
    have i0 : (0 : Int) < (len : Int) := by omega
    go_enter Try.func36, Try.ntmps36
    go_wp2_with fail
    go_quiet (fail)
    go_wp2
    go_ret
    exact ⟨rfl, below_drewN (Below.refl _ _) _⟩

end Go.Proofs.Ytlknegihhcdhbaa

/- The document's own, of tracks: whether some trace does. -/
namespace Go.Proofs.Ytlknegihhcdhbaa
open Go.RowKit Go.Lib Go.Sort
set_option linter.unusedVariables false
set_option linter.unusedSimpArgs false
set_option maxRecDepth 4000

theorem some1_any (x : Nat) (v : Value) (log : List (List Int)) (g : Nat) (q : Value) (p : List Int → Bool) (w : World) (hx : Box1 w x v) (hv : Lists w v log) (hg : AsksQ w g q p) (eg : ∀ args w, (callFunc g args).run Try.prog w = .ok (.enter g args) w) :
    Calls Try.prog 32 #[.func (.func g) #[] #[q], .pointer (some ⟨x, 0, none⟩)] w fun e w' => e = .returned (.bool (log.any p)) ∧ Below w.heap.size w w' := by
  have hx1 := hx.2
  obtain ⟨a, c, rfl, _, _⟩ := hv.slice
  have hc := containslists_any w g q p hg eg _ log w (Below.refl _ _) hv
  generalize log.any p = r at hc ⊢
  clear hg eg
  go_enter Try.func32, Try.ntmps32
  go_wp2_with (go_at_call 33; refine hc.mono ?_; rintro e w5 ⟨rfl, b5⟩)
  go_ret
  exact ⟨rfl, b5⟩
theorem some2_any (x : Nat) (v : Value) (log : List (List Int)) (g : Nat) (q q2 : Value) (p : List Int → Bool) (w : World) (hx : Box1 w x v) (hv : Lists w v log) (hg : AsksLs2 w g q q2 p) (eg : ∀ args w, (callFunc g args).run Try.prog w = .ok (.enter g args) w) :
    Calls Try.prog 32 #[.func (.func g) #[] #[q, q2], .pointer (some ⟨x, 0, none⟩)] w fun e w' => e = .returned (.bool (log.any p)) ∧ Below w.heap.size w w' := by
  have hx1 := hx.2
  obtain ⟨a, c, rfl, _, _⟩ := hv.slice
  have hc := containslists2_any w g q q2 p hg eg _ log w (Below.refl _ _) hv
  generalize log.any p = r at hc ⊢
  clear hg eg
  go_enter Try.func32, Try.ntmps32
  go_wp2_with (go_at_call 33; refine hc.mono ?_; rintro e w5 ⟨rfl, b5⟩)
  go_ret
  exact ⟨rfl, b5⟩
theorem vof2_enters : ∀ args w, (callFunc 34 args).run Try.prog w = .ok (.enter 34 args) w := enters_of Try.func34 (by kernel_rfl) rfl
theorem vof3_enters : ∀ args w, (callFunc 35 args).run Try.prog w = .ok (.enter 35 args) w := enters_of Try.func35 (by kernel_rfl) rfl
theorem vof4_enters : ∀ args w, (callFunc 36 args).run Try.prog w = .ok (.enter 36 args) w := enters_of Try.func36 (by kernel_rfl) rfl
theorem vof5_enters : ∀ args w, (callFunc 37 args).run Try.prog w = .ok (.enter 37 args) w := enters_of Try.func37 (by kernel_rfl) rfl

end Go.Proofs.Ytlknegihhcdhbaa

/- The document's own, of tracks: what VOf gathers, label by label. -/
namespace Go.Proofs.Ytlknegihhcdhbaa
open Go.RowKit
set_option linter.unusedVariables false
set_option linter.unusedSimpArgs false
set_option maxRecDepth 4000

/-! ### plainly -/
def upL (f : Int → Bool) (k : Nat) : List Int := (labels26.take k).filter f
def upQ (f : Int × Int → Bool) (k j : Nat) : List (Int × Int) := (pairs26.take (26 * k + j)).filter f
theorem labels26_at : ∀ k : Nat, k < 26 → labels26[k]? = some ((k : Int) + 1) := by decide
theorem pairs26_at : ∀ k : Nat, k < 26 → ∀ j : Nat, j < 26 → pairs26[26 * k + j]? = some ((k : Int) + 1, (j : Int) + 1) := by decide +kernel
theorem take_more {α : Type} {l : List α} {k : Nat} {x : α} (h : l[k]? = some x) : l.take (k + 1) = l.take k ++ [x] := by rw [List.take_add_one, h]; rfl
theorem upL_succ (f : Int → Bool) {k : Nat} (hk : k < 26) : upL f (k + 1) = if f ((k : Int) + 1) then upL f k ++ [(k : Int) + 1] else upL f k := by
  unfold upL
  rw [take_more (labels26_at k hk), List.filter_append, List.filter_cons, List.filter_nil]
  split <;> simp
theorem upQ_succ (f : Int × Int → Bool) {k j : Nat} (hk : k < 26) (hj : j < 26) : upQ f k (j + 1) = if f ((k : Int) + 1, (j : Int) + 1) then upQ f k j ++ [((k : Int) + 1, (j : Int) + 1)] else upQ f k j := by
  unfold upQ
  rw [← Nat.add_assoc, take_more (pairs26_at k hk j hj), List.filter_append, List.filter_cons, List.filter_nil]
  split <;> simp
theorem upQ_next (f : Int × Int → Bool) (k : Nat) : upQ f k 26 = upQ f (k + 1) 0 := by unfold upQ; rw [show 26 * k + 26 = 26 * (k + 1) + 0 by omega]
theorem upL_all (f : Int → Bool) : upL f 26 = labels26.filter f := by unfold upL; rw [List.take_of_length_le (by decide)]
theorem upQ_all (f : Int × Int → Bool) : upQ f 26 0 = pairs26.filter f := by unfold upQ; rw [List.take_of_length_le (by decide +kernel)]
theorem upL_zero (f : Int → Bool) : upL f 0 = [] := rfl
theorem upQ_zero (f : Int × Int → Bool) : upQ f 0 0 = [] := rfl
theorem upL_le (f : Int → Bool) (k : Nat) : (upL f k).length ≤ 26 := by
  unfold upL
  have h1 := List.length_filter_le f (labels26.take k)
  have h2 : (labels26.take k).length ≤ labels26.length := by rw [List.length_take]; omega
  have h3 : labels26.length = 26 := by decide
  omega
theorem upQ_le (f : Int × Int → Bool) (k j : Nat) : (upQ f k j).length ≤ 676 := by
  unfold upQ
  have h1 := List.length_filter_le f (pairs26.take (26 * k + j))
  have h2 : (pairs26.take (26 * k + j)).length ≤ pairs26.length := by rw [List.length_take]; omega
  have h3 : pairs26.length = 676 := by decide +kernel
  omega

/-! ### four rows that grow, behind one box -/
def tyV (i : Nat) : TypeId := if i = 3 then 38 else 3
def szV (i : Nat) : Nat := if i = 3 then 2 else 1
structure VAt (P : Nat) (w wr : World) (rv : Nat → Value) (C : Nat → Nat × List Value) : Prop where
  cells : ∀ i, i < 4 → wr.cell? ⟨P, i, none⟩ = some (rv i)
  frozen : ∀ i, i < 4 → wr.frozen? ⟨P, i, none⟩ = false
  own : ∀ i, i < 4 → wr.ownsRow (P + 1) (tyV i) (szV i) (rv i) (C i).1 (C i).2
  apart : ∀ i j, i < 4 → j < 4 → i ≠ j → ∀ k, (rv i).ownBlock = some k → (rv j).ownBlock ≠ some k
  below : Below P w wr
  size : P < wr.heap.size
def OffV (rv : Nat → Value) (k : Nat) : Prop := ∀ i, i < 4 → (rv i).ownBlock ≠ some k
section
variable {P : Nat} {w wr : World} {rv : Nat → Value} {C : Nat → Nat × List Value}
theorem VAt.to {w2 : World} (h : VAt P w wr rv C) (hb : Below wr.heap.size wr w2) : VAt P w w2 rv C :=
  ⟨fun i hi => by rw [hb.cell (p := ⟨P, i, none⟩) h.size]; exact h.cells i hi, fun i hi => by rw [hb.frozen (p := ⟨P, i, none⟩) h.size]; exact h.frozen i hi,
   fun i hi => ((ownsRow_on (h.own i hi)).below hb).now, h.apart, h.below.trans (hb.mono (Nat.le_of_lt h.size)), Nat.lt_of_lt_of_le h.size hb.size⟩
theorem VAt.new (h : VAt P w wr rv C) {k : Nat} (hk : wr.heap.size ≤ k) : OffV rv k := fun i hi e => by have := (ownsRow_lt (h.own i hi) e).2; omega
theorem VAt.grown {wC : World} (h : VAt P w wr rv C) {i : Nat} (hi : i < 4) (hg : wr.grownBy wC (rv i).ownBlock) : (∀ j, j < 4 → wC.cell? ⟨P, j, none⟩ = some (rv j)) ∧ ∀ j, j < 4 → wC.frozen? ⟨P, j, none⟩ = false := by
  have hx : wC.heap[P]? = wr.heap[P]? := hg.block P h.size (fun e => by have := (ownsRow_lt (h.own i hi) e.symm).1; omega)
  exact ⟨fun j hj => (World.cell?_of_block (a := ⟨P, j, none⟩) hx).trans (h.cells j hj), fun j hj => by have := h.frozen j hj; unfold World.frozen? at this ⊢; simp only [hx]; exact this⟩
theorem VAt.put {wC : World} {i : Nat} {v' : Value} {C' : Nat → Nat × List Value} (h : VAt P w wr rv C) (hi : i < 4) (hown : wC.ownsRow (P + 1) (tyV i) (szV i) v' (C' i).1 (C' i).2) (hg : wr.grownBy wC (rv i).ownBlock)
    (hat : v'.ownBlock = (rv i).ownBlock ∨ v'.ownBlock = some wr.heap.size) (h2 : ∀ j, j < 4 → j ≠ i → C' j = C j) :
    VAt P w (wC.setCell ⟨P, i, none⟩ v') (fun j => if j = i then v' else rv j) C' := by
  have hlt : ∀ j, j < 4 → ∀ k, (rv j).ownBlock = some k → P + 1 ≤ k ∧ k < wr.heap.size := fun j hj k hk => ownsRow_lt (h.own j hj) hk
  have hbg : Below (P + 1) wr wC := (Below.refl _ _).grown hg (by have := h.size; omega) (fun k hk => (hlt i hi k hk).1)
  have hb2 : Below P wr (wC.setCell ⟨P, i, none⟩ v') := (hbg.mono (Nat.le_succ P)).setCell (p := ⟨P, i, none⟩) (Nat.le_refl _) _
  have hcC : ∀ j, j < 4 → wC.cell? ⟨P, j, none⟩ = some (rv j) := fun j hj => by rw [hbg.cell (p := ⟨P, j, none⟩) (Nat.lt_succ_self P)]; exact h.cells j hj
  refine ⟨fun j hj => ?_, fun j hj => ?_, fun j hj => ?_, fun a b ha hb hne k hk => ?_, h.below.trans hb2, Nat.lt_of_lt_of_le h.size hb2.size⟩
  · by_cases e : j = i
    · subst e
      rw [World.cell?_setCell_same _ _ _ (hcC j hj), if_pos rfl]
    · rw [World.cell?_setCell_other _ _ _ _ (by intro q; injection q with _ q2; omega), if_neg e]
      exact hcC j hj
  · rw [World.frozen?_setCell, hbg.frozen (p := ⟨P, j, none⟩) (Nat.lt_succ_self P)]
    exact h.frozen j hj
  · by_cases e : j = i
    · subst e
      simp only [if_true]
      exact ((ownsRow_on hown).set (a := ⟨P, j, none⟩) (fun e => by have := e.2; simp only at this; omega) v').now
    · simp only [if_neg e]
      rw [h2 j hj e]
      refine ((ownsRow_on (h.own j hj)).to hb2.size fun k hk q => ?_).now
      rw [Below.heap_setCell wC ⟨P, i, none⟩ v' k (fun e => by have := q.2; simp only at e; omega)]
      exact hg.block k hk (fun e2 => h.apart j i hj hi e k q.1 e2.symm)
  · by_cases e1 : a = i
    · have e2 : b ≠ i := by omega
      simp only [if_pos e1] at hk
      simp only [if_neg e2]
      intro q
      rcases hat with r | r
      · rw [r] at hk; exact h.apart i b hi hb (fun e => e2 e.symm) k hk q
      · rw [r] at hk; injection hk with hk; have := (hlt b hb k q).2; omega
    · simp only [if_neg e1] at hk
      by_cases e2 : b = i
      · simp only [if_pos e2]
        intro q
        rcases hat with r | r
        · rw [r] at q; exact h.apart a i ha hi e1 k hk q
        · rw [r] at q; injection q with q; have := (hlt a ha k hk).2; omega
      · simp only [if_neg e2]
        exact h.apart a b ha hb hne k hk
theorem offV_put {i m k : Nat} {v' : Value} (h : OffV rv k) (hi : i < 4) (hat : v'.ownBlock = (rv i).ownBlock ∨ v'.ownBlock = some m) (hk : k < m) : OffV (fun j => if j = i then v' else rv j) k := by
  intro j hj
  by_cases e : j = i
  · simp only [if_pos e]
    rcases hat with r | r
    · rw [r]; exact h i hi
    · rw [r]; intro q; injection q with q; omega
  · simp only [if_neg e]; exact h j hj
/-- A box off the rows stands while one of them grows. -/
theorem box1_put {wC : World} {i b : Nat} {v' x : Value} (hV : VAt P w wr rv C) (h : OffV rv b) (hi : i < 4) (hx : Box1 wr b x) (hb : b ≠ P) (hg : wr.grownBy wC (rv i).ownBlock) : Box1 (wC.setCell ⟨P, i, none⟩ v') b x := by
  refine ⟨by simp; exact Nat.lt_of_lt_of_le hx.1 hg.size, ?_⟩
  rw [World.cell?_setCell_other _ _ _ _ (by intro q; injection q with q2; omega)]
  have e : wC.heap[b]? = wr.heap[b]? := hg.block b hx.1 (fun e => h i hi e.symm)
  exact (World.cell?_of_block (a := ⟨b, 0, none⟩) e).trans hx.2
end
def rowC (L : List Int) : Nat × List Value := (L.length, L.map (Value.int .i64))
def pairC (Q : List (Int × Int)) : Nat × List Value := (Q.length, cellsP Q)
def vC (L0 L1 L2 : List Int) (Q : List (Int × Int)) (i : Nat) : Nat × List Value := if i = 0 then rowC L0 else if i = 1 then rowC L1 else if i = 2 then rowC L2 else pairC Q
theorem vC_0 {L0 L0' L1 L2 : List Int} {Q : List (Int × Int)} (j : Nat) (h : j ≠ 0) : vC L0' L1 L2 Q j = vC L0 L1 L2 Q j := by unfold vC; rw [if_neg h, if_neg h]
theorem vC_1 {L0 L1 L1' L2 : List Int} {Q : List (Int × Int)} (j : Nat) (h : j ≠ 1) : vC L0 L1' L2 Q j = vC L0 L1 L2 Q j := by unfold vC; rw [if_neg h, if_neg h]
theorem vC_2 {L0 L1 L2 L2' : List Int} {Q : List (Int × Int)} (j : Nat) (h : j ≠ 2) : vC L0 L1 L2' Q j = vC L0 L1 L2 Q j := by unfold vC; rw [if_neg h, if_neg h]
theorem vC_3 {L0 L1 L2 : List Int} {Q Q' : List (Int × Int)} (j : Nat) (h : j ≠ 3) (hj : j < 4) : vC L0 L1 L2 Q' j = vC L0 L1 L2 Q j := by
  unfold vC
  by_cases h0 : j = 0
  · rw [if_pos h0, if_pos h0]
  · by_cases h1 : j = 1
    · rw [if_neg h0, if_neg h0, if_pos h1, if_pos h1]
    · rw [if_neg h0, if_neg h0, if_neg h1, if_neg h1, if_pos (by omega), if_pos (by omega)]

/-- append of one pair, and where it lies. -/
theorem wp_append_pair_at {ops : Array Oper} {rest : List Oper} {o : Oper} {a : Act} {Q : Exit → Act → World → Prop} (hgd : o.guard = none) (s x : Operand)
    (ho : o.op = .call { callee := .builtin .append, args := #[s, x], argTypes := #[24, 24] }) (B : Nat) (wr : World) (v : Value) (zs : List (Int × Int)) (y z : Int) (hown : wr.ownsRow B 38 2 v zs.length (cellsP zs))
    (hs : a.eval s = v) (hx : a.eval x = .slice (some ⟨wr.heap.size, 0, none⟩) 1 1) (hl : zs.length + 1 ≤ 8796093022208) (hB : B ≤ wr.heap.size)
    (h : ∀ v' w', w'.ownsRow B 38 2 v' (zs.length + 1) (cellsP zs ++ [.int .i64 y, .int .i64 z]) → (wr.alloc (.cells #[.int .i64 y, .int .i64 z] 38)).grownBy w' v.ownBlock →
      (v'.ownBlock = v.ownBlock ∨ v'.ownBlock = some (wr.alloc (.cells #[.int .i64 y, .int .i64 z] 38)).heap.size) → wpList Try.prog ops Q rest (a.put o.dst v') w') :
    wpList Try.prog ops Q (o :: rest) a (wr.alloc (.cells #[.int .i64 y, .int .i64 z] 38)) := by
  obtain ⟨i0, hi, hz0, hz1, hz2⟩ := info_parts (show (Try.prog.info? 38).map (fun i => (i.zero, i.size, i.bytes)) = some (some (.agg #[.int .i64 0, .int .i64 0]), 2, 16) by kernel_rfl)
  refine wpList_append_own_at _ hgd s x 24 ho B 38 i0 _ 2 16 Try.underlying24 hi hz0 hz1 hz2 rfl (by decide) v zs.length _ hs (hown.alloc _) ⟨wr.heap.size, 0, none⟩ 1 1 [.int .i64 y, .int .i64 z] hx rfl ?_ ?_ ?_ ?_ ?_ ?_
  · intro j u hj
    rw [addr_add, World.cell?_alloc_at _ _ _ _ rfl]
    match j, hj with
    | 0, hj => simpa using hj
    | 1, hj => simpa using hj
  · intro u hu
    simp only [List.mem_cons, List.not_mem_nil, or_false] at hu
    rcases hu with rfl | rfl <;> rfl
  · unfold maxLen; omega
  · omega
  · simp; omega
  · intro v' w' h1 h2 _ h3
    exact h v' w' h1 h2 h3

end Go.Proofs.Ytlknegihhcdhbaa

/- The document's own, of tracks: VOf. (Made by tools/gen_vof.py.) -/
namespace Go.Proofs.Ytlknegihhcdhbaa
open Go.RowKit
set_option linter.unusedVariables false
set_option linter.unusedSimpArgs false
set_option maxRecDepth 4000

theorem vC_nil (i : Nat) : vC [] [] [] [] i = (0, []) := by
  unfold vC rowC pairC
  split
  · rfl
  · split
    · rfl
    · split <;> rfl
theorem vAt_new (w : World) : VAt w.heap.size w (w.alloc (.cells #[.slice none 0 0, .slice none 0 0, .slice none 0 0, .slice none 0 0] 26)) (fun _ => .slice none 0 0) (vC [] [] [] []) := by
  refine ⟨fun i hi => ?_, fun i hi => World.frozen?_alloc_at _ _ _ _ rfl, fun i hi => ?_, fun i j _ _ _ k hk => by simp [Value.ownBlock] at hk, (Below.refl _ _).alloc (Nat.le_refl _) _, by simp⟩
  · rw [World.cell?_alloc_at _ _ _ _ rfl]
    match i, hi with
    | 0, _ => rfl
    | 1, _ => rfl
    | 2, _ => rfl
    | 3, _ => rfl
  · rw [vC_nil]
    exact World.ownsRow_nil _ _ _ _
/-- A box that was made anew, and written. -/
theorem box1_fresh (w : World) (x y : Value) (t : TypeId) : Box1 ((w.alloc (.cells #[x] t)).setCell ⟨w.heap.size, 0, none⟩ y) w.heap.size y ∧ Below w.heap.size w ((w.alloc (.cells #[x] t)).setCell ⟨w.heap.size, 0, none⟩ y) := by
  refine ⟨⟨by simp [World.setCell], ?_⟩, (below_new w (.cells #[x] t)).setCell (p := ⟨w.heap.size, 0, none⟩) (Nat.le_refl _) y⟩
  exact World.cell?_setCell_same _ _ _ (by rw [World.cell?_alloc_at _ _ _ _ rfl]; rfl)

set_option maxHeartbeats 8000000 in
theorem vof_any (v : Value) (log : List (List Int)) (w : World) (hv : Lists w v log) :
    Calls Try.prog 8 #[v] w fun e w' => ∃ r, e = .returned (.tuple #[r, .int .i64 (ofL log).2]) ∧ PrintsV w' r (ofL log).1 ∧ Below w.heap.size w w' := by
  obtain ⟨la, lc, rfl, _, _⟩ := hv.slice
  obtain ⟨N, HN⟩ : ∃ n, Hid (log.length = n) := ⟨_, rfl⟩
  rw [HN.out] at hv ⊢
  have hx := box1_new w (.slice la N lc) 22
  have bb1 := below_new w (.cells #[.slice la N lc] 22)
  have hz1 : (w.alloc (.cells #[.slice la N lc] 22)).heap.size = w.heap.size + 1 := by simp
  obtain ⟨w1, H1⟩ : ∃ u, Hid (w.alloc (.cells #[.slice la N lc] 22) = u) := ⟨_, rfl⟩
  rw [H1.out] at hx bb1 hz1
  have hR := res4_new w1
  have bb2 := below_new w1 (.cells #[.slice none 0 0, .slice none 0 0, .slice none 0 0, .slice none 0 0] 26)
  have hz2 : (w1.alloc (.cells #[.slice none 0 0, .slice none 0 0, .slice none 0 0, .slice none 0 0] 26)).heap.size = w.heap.size + 1 + 1 := by simp [hz1]
  obtain ⟨w0, H0⟩ : ∃ u, Hid (w1.alloc (.cells #[.slice none 0 0, .slice none 0 0, .slice none 0 0, .slice none 0 0] 26) = u) := ⟨_, rfl⟩
  rw [H0.out] at hR bb2 hz2
  rw [hz1] at hR
  replace hx := hx.below bb2
  have hv0 := (hv.below bb1).below bb2
  have bw := bb1.trans (bb2.mono (by omega))
  have Hbw : Hid (Below w.heap.size w w0) := bw
  obtain ⟨x, HX⟩ : ∃ x, Hid (w.heap.size = x) := ⟨_, rfl⟩
  rw [HX.out] at hR hx hz1 hz2
  have HZ : Hid (w0.heap.size = x + 1 + 1) := hz2
  have hw1 := vwrong_any (.slice la N lc) log w0 hv0
  have hx0 := hx.2
  clear bb1 bb2 hz1 hz2 hv bw
  by_cases hw : wrongV log = 0
  · have HO : Hid (ofL log = (printsOf log, 0)) := by show _ = _; unfold ofL; rw [if_pos hw]
    rw [HO.out]
    rw [hw] at hw1
    clear hw
    have hVA := vAt_new w0
    have hbP := below_new w0 (.cells #[.slice none 0 0, .slice none 0 0, .slice none 0 0, .slice none 0 0] 26)
    obtain ⟨wP, HP⟩ : ∃ u, Hid (w0.alloc (.cells #[.slice none 0 0, .slice none 0 0, .slice none 0 0, .slice none 0 0] 26) = u) := ⟨_, rfl⟩
    rw [HP.out] at hVA hbP
    have hA0 := box1_new wP (.int .i64 1) 3
    have hoff0 := hVA.new (Nat.le_refl _)
    have hVB := hVA.to (below_new wP (.cells #[.int .i64 1] 3))
    have HPa : Hid (w0.heap.size < wP.heap.size) := hVA.size
    obtain ⟨wA, HA⟩ : ∃ u, Hid (wP.alloc (.cells #[.int .i64 1] 3) = u) := ⟨_, rfl⟩
    rw [HA.out] at hA0 hVB
    obtain ⟨P, HPP⟩ : ∃ P, Hid (w0.heap.size = P) := ⟨_, rfl⟩
    obtain ⟨a0, Ha0⟩ : ∃ P, Hid (wP.heap.size = P) := ⟨_, rfl⟩
    rw [Ha0.out] at hA0 hoff0
    rw [HPP.out] at hVB
    clear hVA hbP
    go_enter Try.func8, Try.ntmps8
    go_upto_region 1 with fail
    rw [H1.out, H0.out, HX.out]
    go_upto_region 5 with (go_at_call 10; refine hw1.mono ?_; rintro e w2 ⟨rfl, hq⟩; rw [hq]; clear hq)
    clear hw1
    go_upto_region 6 with fail
    rw [HP.out, HPP.out]
    go_wp2_with fail
    rw [HA.out, Ha0.out]
    go_loopg [7] 26 (fun gk i' wr => ∃ (k ab : Nat) (rv : Nat → Value), k + gk = 26 ∧ i' = .pointer (some ⟨ab, 0, none⟩) ∧ Box1 wr ab (.int .i64 ((k : Int) + 1)) ∧ P < ab ∧ OffV rv ab ∧ VAt P w0 wr rv (vC (upL (fun a => log.any (inT a)) k) (upL (fun a => log.any (firstT a)) k) (upL (fun a => log.any (lastT a)) k) (upQ (fun p => log.any (behindT p)) k 0)))
    case atStart => exact ⟨0, a0, _, by omega, rfl, hA0, by rw [← HPP.out, ← Ha0.out]; exact HPa.out, hoff0, hVB⟩
    case round =>
      clear hA0 hVB hoff0 hx0
      obtain ⟨k, ab, rv, hkg, rfl, hbx, hPa, hoff, hV⟩ := hrel
      obtain ⟨g1, rfl⟩ : ∃ g1, g1 = gk := ⟨_, rfl⟩
      obtain ⟨W0, rfl⟩ : ∃ z, z = wr := ⟨_, rfl⟩
      by_cases hk : k < 26
      · obtain ⟨A, HAk⟩ : ∃ A, Hid ((k : Int) + 1 = A) := ⟨_, rfl⟩
        have hA1 : (1 : Int) ≤ A := by have := HAk.out; omega
        have hA2 : A ≤ (26 : Int) := by have := HAk.out; omega
        rw [HAk.out] at hbx
        have hbx0 := hbx.2

        have hc := some1_any x _ log 34 (.pointer (some ⟨ab, 0, none⟩)) (inT A) W0 (hx.below (by rw [HPP.out]; exact hV.below)) (hv0.below (by rw [HPP.out]; exact hV.below)) (vof2_asks W0 ab A hbx) vof2_enters
        have Hs : Hid (upL (fun a => log.any (inT a)) (k + 1) = if log.any (inT A) then upL (fun a => log.any (inT a)) k ++ [A] else upL (fun a => log.any (inT a)) k) := by show _ = _; rw [← HAk.out]; exact upL_succ (fun a => log.any (inT a)) hk
        obtain ⟨q, Hq⟩ : ∃ q, Hid (log.any (inT A) = q) := ⟨_, rfl⟩
        rw [Hq.out] at hc Hs
        go_upto_if 22 with (go_at_call 32; refine hc.mono ?_; rintro e w5 ⟨rfl, b5⟩)
        have hbx5 := hbx.below b5
        have hV5 := hV.to b5
        clear hc b5
        go_cut [] (fun wc => ∃ rv', Box1 wc ab (.int .i64 A) ∧ OffV rv' ab ∧ VAt P w0 wc rv' (vC (upL (fun a => log.any (inT a)) (k + 1)) (upL (fun a => log.any (firstT a)) k) (upL (fun a => log.any (lastT a)) k) (upQ (fun p => log.any (behindT p)) k 0)))
        case first =>
          cases q
          · have HV5 : Hid (VAt P w0 w5 rv (vC (upL (fun a => log.any (inT a)) (k + 1)) (upL (fun a => log.any (firstT a)) k) (upL (fun a => log.any (lastT a)) k) (upQ (fun p => log.any (behindT p)) k 0))) := by
              show VAt P w0 w5 rv (vC (upL (fun a => log.any (inT a)) (k + 1)) (upL (fun a => log.any (firstT a)) k) (upL (fun a => log.any (lastT a)) k) (upQ (fun p => log.any (behindT p)) k 0))
              rw [show upL (fun a => log.any (inT a)) (k + 1) = upL (fun a => log.any (inT a)) k from Hs.out]
              exact hV5
            clear hV5
            go_wp2_with fail
            go_meet
            exact ⟨rv, hbx5, hoff, HV5.out⟩
          · have HsT : Hid (upL (fun a => log.any (inT a)) (k + 1) = upL (fun a => log.any (inT a)) k ++ [A]) := Hs.out
            have hown : w5.ownsRow (P + 1) 3 1 (rv 0) (upL (fun a => log.any (inT a)) k).length ((upL (fun a => log.any (inT a)) k).map (Value.int .i64)) := hV5.own 0 (by omega)
            obtain ⟨ra, rl, rc, hrv⟩ := ownsRow_slice hown
            have y0 := hV5.cells 0 (by omega)
            have hsz : P + 1 ≤ w5.heap.size := hV5.size
            have hl26 := upL_le (fun a => log.any (inT a)) k
            obtain ⟨_, x1⟩ := id hbx5
            rw [hrv] at y0 hown
            have Hrv : Hid (rv 0 = .slice ra rl rc) := hrv
            clear hrv
            go_wp2_with (at_builtin; refine wp_append_int_at rfl _ _ rfl (P + 1) w5 _ (upL (fun a => log.any (inT a)) k) A hown rfl rfl (by omega) hsz ?_; intro v' w6 hO6 hg6 hat6; obtain ⟨a', l', c', rfl⟩ := ownsRow_slice hO6; have hV6 := hV5.to (below_new w5 (.cells #[.int .i64 A] 3)); have hb6 := hbx5.below (below_new w5 (.cells #[.int .i64 A] 3)); rw [← Hrv.out] at hg6 hat6; have hgr := hV6.grown (i := 0) (by omega) hg6; have u0 := hgr.1 0 (by omega); have u1 := hgr.2 0 (by omega))
            have hO7 : w6.ownsRow (P + 1) (tyV 0) (szV 0) (.slice a' l' c') ((vC (upL (fun a => log.any (inT a)) (k + 1)) (upL (fun a => log.any (firstT a)) k) (upL (fun a => log.any (lastT a)) k) (upQ (fun p => log.any (behindT p)) k 0)) 0).1 ((vC (upL (fun a => log.any (inT a)) (k + 1)) (upL (fun a => log.any (firstT a)) k) (upL (fun a => log.any (lastT a)) k) (upQ (fun p => log.any (behindT p)) k 0)) 0).2 := by
              show w6.ownsRow (P + 1) 3 1 (.slice a' l' c') (upL (fun a => log.any (inT a)) (k + 1)).length ((upL (fun a => log.any (inT a)) (k + 1)).map (Value.int .i64))
              rw [HsT.out]
              simpa using hO6
            have HV7 : Hid (VAt P w0 (w6.setCell ⟨P, 0, none⟩ (.slice a' l' c')) (fun j => if j = 0 then .slice a' l' c' else rv j) (vC (upL (fun a => log.any (inT a)) (k + 1)) (upL (fun a => log.any (firstT a)) k) (upL (fun a => log.any (lastT a)) k) (upQ (fun p => log.any (behindT p)) k 0))) := hV6.put (by omega) hO7 hg6 hat6 (fun j hj4 hj => vC_0 j hj)
            have HB7 : Hid (Box1 (w6.setCell ⟨P, 0, none⟩ (.slice a' l' c')) ab (.int .i64 A)) := box1_put hV6 hoff (by omega) hb6 (by omega) hg6
            have HO7 : Hid (OffV (fun j => if j = 0 then .slice a' l' c' else rv j) ab) := offV_put hoff (by omega) hat6 hb6.1
            clear hO7 hV6 hb6 hgr hO6 hg6 hat6 hV5 hown u0 u1
            go_meet
            exact ⟨_, HB7.out, HO7.out, HV7.out⟩
        case rest =>
          obtain ⟨rv1, hbx1, hoff1, hV1⟩ := hcut
          obtain ⟨W1, rfl⟩ : ∃ z, z = wc := ⟨_, rfl⟩
          clear hbx5 hV5 Hs Hq hbx hV hoff

          have hc := some1_any x _ log 35 (.pointer (some ⟨ab, 0, none⟩)) (firstT A) W1 (hx.below (by rw [HPP.out]; exact hV1.below)) (hv0.below (by rw [HPP.out]; exact hV1.below)) (vof3_asks W1 ab A hbx1) vof3_enters
          have Hs : Hid (upL (fun a => log.any (firstT a)) (k + 1) = if log.any (firstT A) then upL (fun a => log.any (firstT a)) k ++ [A] else upL (fun a => log.any (firstT a)) k) := by show _ = _; rw [← HAk.out]; exact upL_succ (fun a => log.any (firstT a)) hk
          obtain ⟨q, Hq⟩ : ∃ q, Hid (log.any (firstT A) = q) := ⟨_, rfl⟩
          rw [Hq.out] at hc Hs
          go_upto_if 31 with (go_at_call 32; refine hc.mono ?_; rintro e w5 ⟨rfl, b5⟩)
          have hbx5 := hbx1.below b5
          have hV5 := hV1.to b5
          clear hc b5
          go_cut [] (fun wc => ∃ rv', Box1 wc ab (.int .i64 A) ∧ OffV rv' ab ∧ VAt P w0 wc rv' (vC (upL (fun a => log.any (inT a)) (k + 1)) (upL (fun a => log.any (firstT a)) (k + 1)) (upL (fun a => log.any (lastT a)) k) (upQ (fun p => log.any (behindT p)) k 0)))
          case first =>
            cases q
            · have HV5 : Hid (VAt P w0 w5 rv1 (vC (upL (fun a => log.any (inT a)) (k + 1)) (upL (fun a => log.any (firstT a)) (k + 1)) (upL (fun a => log.any (lastT a)) k) (upQ (fun p => log.any (behindT p)) k 0))) := by
                show VAt P w0 w5 rv1 (vC (upL (fun a => log.any (inT a)) (k + 1)) (upL (fun a => log.any (firstT a)) (k + 1)) (upL (fun a => log.any (lastT a)) k) (upQ (fun p => log.any (behindT p)) k 0))
                rw [show upL (fun a => log.any (firstT a)) (k + 1) = upL (fun a => log.any (firstT a)) k from Hs.out]
                exact hV5
              clear hV5
              go_wp2_with fail
              go_meet
              exact ⟨rv1, hbx5, hoff1, HV5.out⟩
            · have HsT : Hid (upL (fun a => log.any (firstT a)) (k + 1) = upL (fun a => log.any (firstT a)) k ++ [A]) := Hs.out
              have hown : w5.ownsRow (P + 1) 3 1 (rv1 1) (upL (fun a => log.any (firstT a)) k).length ((upL (fun a => log.any (firstT a)) k).map (Value.int .i64)) := hV5.own 1 (by omega)
              obtain ⟨ra, rl, rc, hrv⟩ := ownsRow_slice hown
              have y0 := hV5.cells 1 (by omega)
              have hsz : P + 1 ≤ w5.heap.size := hV5.size
              have hl26 := upL_le (fun a => log.any (firstT a)) k
              obtain ⟨_, x1⟩ := id hbx5
              rw [hrv] at y0 hown
              have Hrv : Hid (rv1 1 = .slice ra rl rc) := hrv
              clear hrv
              go_wp2_with (at_builtin; refine wp_append_int_at rfl _ _ rfl (P + 1) w5 _ (upL (fun a => log.any (firstT a)) k) A hown rfl rfl (by omega) hsz ?_; intro v' w6 hO6 hg6 hat6; obtain ⟨a', l', c', rfl⟩ := ownsRow_slice hO6; have hV6 := hV5.to (below_new w5 (.cells #[.int .i64 A] 3)); have hb6 := hbx5.below (below_new w5 (.cells #[.int .i64 A] 3)); rw [← Hrv.out] at hg6 hat6; have hgr := hV6.grown (i := 1) (by omega) hg6; have u0 := hgr.1 1 (by omega); have u1 := hgr.2 1 (by omega))
              have hO7 : w6.ownsRow (P + 1) (tyV 1) (szV 1) (.slice a' l' c') ((vC (upL (fun a => log.any (inT a)) (k + 1)) (upL (fun a => log.any (firstT a)) (k + 1)) (upL (fun a => log.any (lastT a)) k) (upQ (fun p => log.any (behindT p)) k 0)) 1).1 ((vC (upL (fun a => log.any (inT a)) (k + 1)) (upL (fun a => log.any (firstT a)) (k + 1)) (upL (fun a => log.any (lastT a)) k) (upQ (fun p => log.any (behindT p)) k 0)) 1).2 := by
                show w6.ownsRow (P + 1) 3 1 (.slice a' l' c') (upL (fun a => log.any (firstT a)) (k + 1)).length ((upL (fun a => log.any (firstT a)) (k + 1)).map (Value.int .i64))
                rw [HsT.out]
                simpa using hO6
              have HV7 : Hid (VAt P w0 (w6.setCell ⟨P, 1, none⟩ (.slice a' l' c')) (fun j => if j = 1 then .slice a' l' c' else rv1 j) (vC (upL (fun a => log.any (inT a)) (k + 1)) (upL (fun a => log.any (firstT a)) (k + 1)) (upL (fun a => log.any (lastT a)) k) (upQ (fun p => log.any (behindT p)) k 0))) := hV6.put (by omega) hO7 hg6 hat6 (fun j hj4 hj => vC_1 j hj)
              have HB7 : Hid (Box1 (w6.setCell ⟨P, 1, none⟩ (.slice a' l' c')) ab (.int .i64 A)) := box1_put hV6 hoff1 (by omega) hb6 (by omega) hg6
              have HO7 : Hid (OffV (fun j => if j = 1 then .slice a' l' c' else rv1 j) ab) := offV_put hoff1 (by omega) hat6 hb6.1
              clear hO7 hV6 hb6 hgr hO6 hg6 hat6 hV5 hown u0 u1
              go_meet
              exact ⟨_, HB7.out, HO7.out, HV7.out⟩
          case rest =>
            obtain ⟨rv2, hbx2, hoff2, hV2⟩ := hcut
            obtain ⟨W2, rfl⟩ : ∃ z, z = wc := ⟨_, rfl⟩
            clear hbx5 hV5 Hs Hq hbx1 hV1 hoff1

            have hc := some1_any x _ log 36 (.pointer (some ⟨ab, 0, none⟩)) (lastT A) W2 (hx.below (by rw [HPP.out]; exact hV2.below)) (hv0.below (by rw [HPP.out]; exact hV2.below)) (vof4_asks W2 ab A hbx2) vof4_enters
            have Hs : Hid (upL (fun a => log.any (lastT a)) (k + 1) = if log.any (lastT A) then upL (fun a => log.any (lastT a)) k ++ [A] else upL (fun a => log.any (lastT a)) k) := by show _ = _; rw [← HAk.out]; exact upL_succ (fun a => log.any (lastT a)) hk
            obtain ⟨q, Hq⟩ : ∃ q, Hid (log.any (lastT A) = q) := ⟨_, rfl⟩
            rw [Hq.out] at hc Hs
            go_upto_if 40 with (go_at_call 32; refine hc.mono ?_; rintro e w5 ⟨rfl, b5⟩)
            have hbx5 := hbx2.below b5
            have hV5 := hV2.to b5
            clear hc b5
            go_cut [] (fun wc => ∃ rv', Box1 wc ab (.int .i64 A) ∧ OffV rv' ab ∧ VAt P w0 wc rv' (vC (upL (fun a => log.any (inT a)) (k + 1)) (upL (fun a => log.any (firstT a)) (k + 1)) (upL (fun a => log.any (lastT a)) (k + 1)) (upQ (fun p => log.any (behindT p)) k 0)))
            case first =>
              cases q
              · have HV5 : Hid (VAt P w0 w5 rv2 (vC (upL (fun a => log.any (inT a)) (k + 1)) (upL (fun a => log.any (firstT a)) (k + 1)) (upL (fun a => log.any (lastT a)) (k + 1)) (upQ (fun p => log.any (behindT p)) k 0))) := by
                  show VAt P w0 w5 rv2 (vC (upL (fun a => log.any (inT a)) (k + 1)) (upL (fun a => log.any (firstT a)) (k + 1)) (upL (fun a => log.any (lastT a)) (k + 1)) (upQ (fun p => log.any (behindT p)) k 0))
                  rw [show upL (fun a => log.any (lastT a)) (k + 1) = upL (fun a => log.any (lastT a)) k from Hs.out]
                  exact hV5
                clear hV5
                go_wp2_with fail
                go_meet
                exact ⟨rv2, hbx5, hoff2, HV5.out⟩
              · have HsT : Hid (upL (fun a => log.any (lastT a)) (k + 1) = upL (fun a => log.any (lastT a)) k ++ [A]) := Hs.out
                have hown : w5.ownsRow (P + 1) 3 1 (rv2 2) (upL (fun a => log.any (lastT a)) k).length ((upL (fun a => log.any (lastT a)) k).map (Value.int .i64)) := hV5.own 2 (by omega)
                obtain ⟨ra, rl, rc, hrv⟩ := ownsRow_slice hown
                have y0 := hV5.cells 2 (by omega)
                have hsz : P + 1 ≤ w5.heap.size := hV5.size
                have hl26 := upL_le (fun a => log.any (lastT a)) k
                obtain ⟨_, x1⟩ := id hbx5
                rw [hrv] at y0 hown
                have Hrv : Hid (rv2 2 = .slice ra rl rc) := hrv
                clear hrv
                go_wp2_with (at_builtin; refine wp_append_int_at rfl _ _ rfl (P + 1) w5 _ (upL (fun a => log.any (lastT a)) k) A hown rfl rfl (by omega) hsz ?_; intro v' w6 hO6 hg6 hat6; obtain ⟨a', l', c', rfl⟩ := ownsRow_slice hO6; have hV6 := hV5.to (below_new w5 (.cells #[.int .i64 A] 3)); have hb6 := hbx5.below (below_new w5 (.cells #[.int .i64 A] 3)); rw [← Hrv.out] at hg6 hat6; have hgr := hV6.grown (i := 2) (by omega) hg6; have u0 := hgr.1 2 (by omega); have u1 := hgr.2 2 (by omega))
                have hO7 : w6.ownsRow (P + 1) (tyV 2) (szV 2) (.slice a' l' c') ((vC (upL (fun a => log.any (inT a)) (k + 1)) (upL (fun a => log.any (firstT a)) (k + 1)) (upL (fun a => log.any (lastT a)) (k + 1)) (upQ (fun p => log.any (behindT p)) k 0)) 2).1 ((vC (upL (fun a => log.any (inT a)) (k + 1)) (upL (fun a => log.any (firstT a)) (k + 1)) (upL (fun a => log.any (lastT a)) (k + 1)) (upQ (fun p => log.any (behindT p)) k 0)) 2).2 := by
                  show w6.ownsRow (P + 1) 3 1 (.slice a' l' c') (upL (fun a => log.any (lastT a)) (k + 1)).length ((upL (fun a => log.any (lastT a)) (k + 1)).map (Value.int .i64))
                  rw [HsT.out]
                  simpa using hO6
                have HV7 : Hid (VAt P w0 (w6.setCell ⟨P, 2, none⟩ (.slice a' l' c')) (fun j => if j = 2 then .slice a' l' c' else rv2 j) (vC (upL (fun a => log.any (inT a)) (k + 1)) (upL (fun a => log.any (firstT a)) (k + 1)) (upL (fun a => log.any (lastT a)) (k + 1)) (upQ (fun p => log.any (behindT p)) k 0))) := hV6.put (by omega) hO7 hg6 hat6 (fun j hj4 hj => vC_2 j hj)
                have HB7 : Hid (Box1 (w6.setCell ⟨P, 2, none⟩ (.slice a' l' c')) ab (.int .i64 A)) := box1_put hV6 hoff2 (by omega) hb6 (by omega) hg6
                have HO7 : Hid (OffV (fun j => if j = 2 then .slice a' l' c' else rv2 j) ab) := offV_put hoff2 (by omega) hat6 hb6.1
                clear hO7 hV6 hb6 hgr hO6 hg6 hat6 hV5 hown u0 u1
                go_meet
                exact ⟨_, HB7.out, HO7.out, HV7.out⟩
            case rest =>
              obtain ⟨rv3, hbx3, hoff3, hV3⟩ := hcut
              obtain ⟨W3, rfl⟩ : ∃ z, z = wc := ⟨_, rfl⟩
              clear hbx5 hV5 Hs Hq hbx2 hV2 hoff2

              have hB0 := box1_new W3 (.int .i64 1) 3
              have bN := below_new W3 (.cells #[.int .i64 1] 3)
              have hVN := hV3.to bN
              have hbxN := hbx3.below bN
              have HoN : Hid (OffV rv3 W3.heap.size) := hV3.new (Nat.le_refl _)
              have HneN : Hid (ab < W3.heap.size) := hbx3.1
              obtain ⟨WN, HWN⟩ : ∃ z, Hid (W3.alloc (.cells #[.int .i64 1] 3) = z) := ⟨_, rfl⟩
              rw [HWN.out] at hB0 hVN hbxN bN
              obtain ⟨b0, Hb0⟩ : ∃ z, Hid (W3.heap.size = z) := ⟨_, rfl⟩
              rw [Hb0.out] at hB0 HoN HneN
              go_upto_region 15 with fail
              go_wp2_with fail
              rw [HWN.out, Hb0.out]
              go_loopg [8] 26 (fun gk i' wr => ∃ (j bb : Nat) (rv' : Nat → Value), j + gk = 26 ∧ i' = .pointer (some ⟨bb, 0, none⟩) ∧ Box1 wr bb (.int .i64 ((j : Int) + 1)) ∧ Box1 wr ab (.int .i64 A) ∧ ab < bb ∧ OffV rv' bb ∧ OffV rv' ab ∧ VAt P w0 wr rv' (vC (upL (fun a => log.any (inT a)) (k + 1)) (upL (fun a => log.any (firstT a)) (k + 1)) (upL (fun a => log.any (lastT a)) (k + 1)) (upQ (fun p => log.any (behindT p)) k j)))
              case atStart => exact ⟨0, b0, rv3, by omega, rfl, hB0, hbxN, HneN.out, HoN.out, hoff3, hVN⟩
              case round =>
                clear hB0 hbxN hVN hoff3 hV3 hbx3 bN
                obtain ⟨j, bb, rw_, hjg, rfl, hbb, hba, hab, hob, hoa, hW⟩ := hrel
                obtain ⟨g2, rfl⟩ : ∃ g1, g1 = gk := ⟨_, rfl⟩
                obtain ⟨U0, rfl⟩ : ∃ z, z = wr := ⟨_, rfl⟩
                by_cases hj : j < 26
                · obtain ⟨Bv, HBv⟩ : ∃ A, Hid ((j : Int) + 1 = A) := ⟨_, rfl⟩
                  have hB1 : (1 : Int) ≤ Bv := by have := HBv.out; omega
                  have hB2 : Bv ≤ (26 : Int) := by have := HBv.out; omega
                  rw [HBv.out] at hbb
                  have hbb0 := hbb.2
                  have hc := some2_any x _ log 37 (.pointer (some ⟨ab, 0, none⟩)) (.pointer (some ⟨bb, 0, none⟩)) (behindT (A, Bv)) U0 (hx.below (by rw [HPP.out]; exact hW.below)) (hv0.below (by rw [HPP.out]; exact hW.below)) (vof5_asks U0 ab bb A Bv hba hbb) vof5_enters
                  have Hs : Hid (upQ (fun p => log.any (behindT p)) k (j + 1) = if log.any (behindT (A, Bv)) then upQ (fun p => log.any (behindT p)) k j ++ [(A, Bv)] else upQ (fun p => log.any (behindT p)) k j) := by show _ = _; rw [← HAk.out, ← HBv.out]; exact upQ_succ (fun p => log.any (behindT p)) hk hj
                  obtain ⟨q, Hq⟩ : ∃ q, Hid (log.any (behindT (A, Bv)) = q) := ⟨_, rfl⟩
                  rw [Hq.out] at hc Hs
                  go_upto_if 53 with (go_at_call 32; refine hc.mono ?_; rintro e w5 ⟨rfl, b5⟩)
                  have hbb5 := hbb.below b5
                  have hba5 := hba.below b5
                  have hV5 := hW.to b5
                  clear hc b5
                  cases q
                  · have HV5 : Hid (VAt P w0 w5 rw_ (vC (upL (fun a => log.any (inT a)) (k + 1)) (upL (fun a => log.any (firstT a)) (k + 1)) (upL (fun a => log.any (lastT a)) (k + 1)) (upQ (fun p => log.any (behindT p)) k (j + 1)))) := by
                      show VAt P w0 w5 rw_ (vC (upL (fun a => log.any (inT a)) (k + 1)) (upL (fun a => log.any (firstT a)) (k + 1)) (upL (fun a => log.any (lastT a)) (k + 1)) (upQ (fun p => log.any (behindT p)) k (j + 1)))
                      rw [show upQ (fun p => log.any (behindT p)) k (j + 1) = upQ (fun p => log.any (behindT p)) k j from Hs.out]
                      exact hV5
                    have hN := box1_new w5 (.int .i64 (Bv + 1)) 3
                    have bn := below_new w5 (.cells #[.int .i64 (Bv + 1)] 3)
                    have HF1 : Hid (Box1 _ _ _) := hN
                    have HF2 : Hid (VAt P w0 _ rw_ (vC (upL (fun a => log.any (inT a)) (k + 1)) (upL (fun a => log.any (firstT a)) (k + 1)) (upL (fun a => log.any (lastT a)) (k + 1)) (upQ (fun p => log.any (behindT p)) k (j + 1)))) := HV5.out.to bn
                    have HF3 : Hid (Box1 _ ab (.int .i64 A)) := hba5.below bn
                    have HF4 : Hid (OffV rw_ w5.heap.size) := HV5.out.new (Nat.le_refl _)
                    have HF5 : Hid (ab < w5.heap.size) := hba5.1
                    have x2 := hbb5.2
                    clear hN bn hV5 hbb0
                    go_wp2
                    go_roundg (g2 - 1)
                    case measure => omega
                    case rel => exact ⟨j + 1, _, rw_, by omega, rfl, by rw [show (((j + 1 : Nat) : Int) + 1) = Bv + 1 by have := HBv.out; omega]; exact HF1.out, HF3.out, HF5.out, HF4.out, hoa, HF2.out⟩
                  · have HsT : Hid (upQ (fun p => log.any (behindT p)) k (j + 1) = upQ (fun p => log.any (behindT p)) k j ++ [(A, Bv)]) := Hs.out
                    have hown : w5.ownsRow (P + 1) 38 2 (rw_ 3) (upQ (fun p => log.any (behindT p)) k j).length (cellsP (upQ (fun p => log.any (behindT p)) k j)) := hV5.own 3 (by omega)
                    obtain ⟨ra, rl, rc, hrv⟩ := ownsRow_slice hown
                    have y0 := hV5.cells 3 (by omega)
                    have hsz : P + 1 ≤ w5.heap.size := hV5.size
                    have hl26 := upQ_le (fun p => log.any (behindT p)) k j
                    obtain ⟨_, x1⟩ := id hba5
                    obtain ⟨_, x2⟩ := id hbb5
                    rw [hrv] at y0 hown
                    have Hrv : Hid (rw_ 3 = .slice ra rl rc) := hrv
                    clear hrv hbb0
                    go_wp2_with (at_builtin; refine wp_append_pair_at rfl _ _ rfl (P + 1) w5 _ (upQ (fun p => log.any (behindT p)) k j) A Bv hown rfl rfl (by omega) hsz ?_; intro v' w6 hO6 hg6 hat6; obtain ⟨a', l', c', rfl⟩ := ownsRow_slice hO6; have hV6 := hV5.to (below_new w5 (.cells #[.int .i64 A, .int .i64 Bv] 38)); have hb6 := hba5.below (below_new w5 (.cells #[.int .i64 A, .int .i64 Bv] 38)); have hb7 := hbb5.below (below_new w5 (.cells #[.int .i64 A, .int .i64 Bv] 38)); rw [← Hrv.out] at hg6 hat6; have hgr := hV6.grown (i := 3) (by omega) hg6; have u0 := hgr.1 3 (by omega); have u1 := hgr.2 3 (by omega); have hQ8 : Box1 (w6.setCell ⟨P, 3, none⟩ (.slice a' l' c')) bb (.int .i64 Bv) := box1_put hV6 hob (by omega) hb7 (by omega) hg6; have u2 := hQ8.2)
                    have hO7 : w6.ownsRow (P + 1) (tyV 3) (szV 3) (.slice a' l' c') ((vC (upL (fun a => log.any (inT a)) (k + 1)) (upL (fun a => log.any (firstT a)) (k + 1)) (upL (fun a => log.any (lastT a)) (k + 1)) (upQ (fun p => log.any (behindT p)) k (j + 1))) 3).1 ((vC (upL (fun a => log.any (inT a)) (k + 1)) (upL (fun a => log.any (firstT a)) (k + 1)) (upL (fun a => log.any (lastT a)) (k + 1)) (upQ (fun p => log.any (behindT p)) k (j + 1))) 3).2 := by
                      show w6.ownsRow (P + 1) 38 2 (.slice a' l' c') (upQ (fun p => log.any (behindT p)) k (j + 1)).length (cellsP (upQ (fun p => log.any (behindT p)) k (j + 1)))
                      rw [HsT.out, cellsP_append, List.length_append]
                      exact hO6
                    have hV7 : VAt P w0 (w6.setCell ⟨P, 3, none⟩ (.slice a' l' c')) (fun j => if j = 3 then .slice a' l' c' else rw_ j) (vC (upL (fun a => log.any (inT a)) (k + 1)) (upL (fun a => log.any (firstT a)) (k + 1)) (upL (fun a => log.any (lastT a)) (k + 1)) (upQ (fun p => log.any (behindT p)) k (j + 1))) := hV6.put (by omega) hO7 hg6 hat6 (fun j hj4 hj => vC_3 j hj hj4)
                    have hB7 : Box1 (w6.setCell ⟨P, 3, none⟩ (.slice a' l' c')) ab (.int .i64 A) := box1_put hV6 hoa (by omega) hb6 (by omega) hg6
                    have HO7 : Hid (OffV (fun j => if j = 3 then .slice a' l' c' else rw_ j) ab) := offV_put hoa (by omega) hat6 hb6.1
                    have hN := box1_new (w6.setCell ⟨P, 3, none⟩ (.slice a' l' c')) (.int .i64 (Bv + 1)) 3
                    have bn := below_new (w6.setCell ⟨P, 3, none⟩ (.slice a' l' c')) (.cells #[.int .i64 (Bv + 1)] 3)
                    have HF2 := hV7.to bn
                    have HF3 := hB7.below bn
                    have HF4 := hV7.new (Nat.le_refl _)
                    have hlt := hB7.1
                    have hzz : (w6.setCell ⟨P, 3, none⟩ (.slice a' l' c')).heap.size = w6.heap.size := by simp
                    rw [hzz] at hN HF4 hlt
                    go_roundg (g2 - 1)
                    case measure => omega
                    case rel => exact ⟨j + 1, _, _, by omega, rfl, by rw [show (((j + 1 : Nat) : Int) + 1) = Bv + 1 by have := HBv.out; omega]; exact hN, HF3, hlt, HF4, HO7.out, HF2⟩
                · obtain rfl : j = 26 := by omega
                  have HQ26 : Hid (VAt P w0 U0 rw_ (vC (upL (fun a => log.any (inT a)) (k + 1)) (upL (fun a => log.any (firstT a)) (k + 1)) (upL (fun a => log.any (lastT a)) (k + 1)) (upQ (fun p => log.any (behindT p)) (k + 1) 0))) := by show VAt P w0 U0 rw_ (vC (upL (fun a => log.any (inT a)) (k + 1)) (upL (fun a => log.any (firstT a)) (k + 1)) (upL (fun a => log.any (lastT a)) (k + 1)) (upQ (fun p => log.any (behindT p)) (k + 1) 0)); rw [← upQ_next]; exact hW
                  have hbb0 : U0.cell? ⟨bb, 0, none⟩ = some (.int .i64 27) := hbb.2
                  have hba0 := hba.2
                  have hf1 := box1_new U0 (.int .i64 (A + 1)) 3
                  have hf2 := below_new U0 (.cells #[.int .i64 (A + 1)] 3)
                  have HF1 : Hid (Box1 _ _ _) := hf1
                  have HF2 : Hid (VAt P w0 _ rw_ (vC (upL (fun a => log.any (inT a)) (k + 1)) (upL (fun a => log.any (firstT a)) (k + 1)) (upL (fun a => log.any (lastT a)) (k + 1)) (upQ (fun p => log.any (behindT p)) (k + 1) 0))) := HQ26.out.to hf2
                  have HF4 : Hid (OffV rw_ U0.heap.size) := HQ26.out.new (Nat.le_refl _)
                  have HF5 : Hid (P < U0.heap.size) := HQ26.out.size
                  clear hf1 hf2 HQ26 hW hbb hba
                  go_wp2
                  go_roundg (g1 - 1)
                  case measure => omega
                  case rel => exact ⟨k + 1, _, rw_, by omega, rfl, by rw [show (((k + 1 : Nat) : Int) + 1) = A + 1 by have := HAk.out; omega]; exact HF1.out, HF5.out, HF4.out, HF2.out⟩
      · obtain rfl : k = 26 := by omega
        have hbx0 : W0.cell? ⟨ab, 0, none⟩ = some (.int .i64 27) := hbx.2
        have p0 : RowI P W0 (rv 0) (labels26.filter (fun a => log.any (inT a))) := by have := hV.own 0 (by omega); rw [← upL_all]; exact this
        have p1 : RowI P W0 (rv 1) (labels26.filter (fun a => log.any (firstT a))) := by have := hV.own 1 (by omega); rw [← upL_all]; exact this
        have p2 : RowI P W0 (rv 2) (labels26.filter (fun a => log.any (lastT a))) := by have := hV.own 2 (by omega); rw [← upL_all]; exact this
        have p3 : RowQ P W0 (rv 3) (pairs26.filter (fun p => log.any (behindT p))) := by have := hV.own 3 (by omega); rw [← upQ_all]; exact this
        have HPr : Hid (PrintsL.mk (labels26.filter fun a => log.any (inT a)) (labels26.filter fun a => log.any (firstT a)) (labels26.filter fun a => log.any (lastT a)) (pairs26.filter fun p => log.any (behindT p)) = printsOf log) := rfl
        have k0 : (labels26.filter fun a => log.any (inT a)).length ≤ 26 := Nat.le_trans (List.length_filter_le _ _) (by decide)
        have k1 : (labels26.filter fun a => log.any (firstT a)).length ≤ 26 := Nat.le_trans (List.length_filter_le _ _) (by decide)
        have k2 : (labels26.filter fun a => log.any (lastT a)).length ≤ 26 := Nat.le_trans (List.length_filter_le _ _) (by decide)
        have k3 : (pairs26.filter fun p => log.any (behindT p)).length ≤ 676 := Nat.le_trans (List.length_filter_le _ _) (by decide +kernel)
        generalize (labels26.filter fun a => log.any (inT a)) = L0 at p0 k0 HPr
        generalize (labels26.filter fun a => log.any (firstT a)) = L1 at p1 k1 HPr
        generalize (labels26.filter fun a => log.any (lastT a)) = L2 at p2 k2 HPr
        generalize (pairs26.filter fun p => log.any (behindT p)) = L3 at p3 k3 HPr
        have y0 := hV.cells 0 (by omega)
        have y1 := hV.cells 1 (by omega)
        have y2 := hV.cells 2 (by omega)
        have y3 := hV.cells 3 (by omega)
        have hRr := hR.below (show Below w0.heap.size w0 W0 by rw [HPP.out]; exact hV.below)
        have HB0 : Hid (Below w.heap.size w W0) := Hbw.out.trans (hV.below.mono (by rw [HX.out, ← HPP.out, HZ.out]; omega))
        have hPs := hV.size
        generalize rv 0 = r0 at p0 y0
        generalize rv 1 = r1 at p1 y1
        generalize rv 2 = r2 at p2 y2
        generalize rv 3 = r3 at p3 y3
        obtain ⟨a0, c0, rfl⟩ := p0.slice
        obtain ⟨a1, c1, rfl⟩ := p1.slice
        obtain ⟨a2, c2, rfl⟩ := p2.slice
        obtain ⟨a3, c3, rfl⟩ := p3.slice
        have i0 := p0.ints k0 hPs
        have i1 := p1.ints k1 hPs
        have i2 := p2.ints k2 hPs
        have i3 := p3.pairs k3
        obtain ⟨⟨gx, z0, z1, z2, z3⟩, gf⟩ := id hRr
        have f0 := gf 0
        have f1 := gf 1
        have f2 := gf 2
        have f3 := gf 3
        have hB := box4_store hRr.1 (.slice a0 L0.length c0) (.slice a1 L1.length c1) (.slice a2 L2.length c2) (.slice a3 L3.length c3)
        have q0 := store4 (Q := fun w => Ints w (.slice a0 L0.length c0) L0) (fun w p a l c u h hp => ints_putS h hp u) hRr.1 i0 (.slice a0 L0.length c0) (.slice a1 L1.length c1) (.slice a2 L2.length c2) (.slice a3 L3.length c3)
        have q1 := store4 (Q := fun w => Ints w (.slice a1 L1.length c1) L1) (fun w p a l c u h hp => ints_putS h hp u) hRr.1 i1 (.slice a0 L0.length c0) (.slice a1 L1.length c1) (.slice a2 L2.length c2) (.slice a3 L3.length c3)
        have q2 := store4 (Q := fun w => Ints w (.slice a2 L2.length c2) L2) (fun w p a l c u h hp => ints_putS h hp u) hRr.1 i2 (.slice a0 L0.length c0) (.slice a1 L1.length c1) (.slice a2 L2.length c2) (.slice a3 L3.length c3)
        have q3 := store4 (Q := fun w => PairsV w (.slice a3 L3.length c3) L3) (fun w p a l c u h hp => pairs_putS h hp u) hRr.1 i3 (.slice a0 L0.length c0) (.slice a1 L1.length c1) (.slice a2 L2.length c2) (.slice a3 L3.length c3)
        have HX1 : Hid (w.heap.size ≤ x + 1) := by show _ ≤ _; rw [HX.out]; omega
        have bw' := (((HB0.out.setCell (p := ⟨x + 1, 0, none⟩) HX1.out (.slice a0 L0.length c0)).setCell (p := ⟨x + 1, 1, none⟩) HX1.out (.slice a1 L1.length c1)).setCell (p := ⟨x + 1, 2, none⟩) HX1.out (.slice a2 L2.length c2)).setCell (p := ⟨x + 1, 3, none⟩) HX1.out (.slice a3 L3.length c3)
        obtain ⟨WW, HWW⟩ : ∃ W, Hid ((((W0.setCell ⟨x + 1, 0, none⟩ (.slice a0 L0.length c0)).setCell ⟨x + 1, 1, none⟩ (.slice a1 L1.length c1)).setCell ⟨x + 1, 2, none⟩ (.slice a2 L2.length c2)).setCell ⟨x + 1, 3, none⟩ (.slice a3 L3.length c3) = W) := ⟨_, rfl⟩
        rw [HWW.out] at hB bw' q0 q1 q2 q3
        have HBB : Hid (Box4 WW (x + 1) (.slice a0 L0.length c0) (.slice a1 L1.length c1) (.slice a2 L2.length c2) (.slice a3 L3.length c3)) := hB
        have HQ : Hid (Ints WW (.slice a0 L0.length c0) L0 ∧ Ints WW (.slice a1 L1.length c1) L1 ∧ Ints WW (.slice a2 L2.length c2) L2 ∧ PairsV WW (.slice a3 L3.length c3) L3 ∧ Below w.heap.size w WW) := ⟨q0, q1, q2, q3, bw'⟩
        clear hB bw' q0 q1 q2 q3 hV hbx hoff p0 p1 p2 p3 i0 i1 i2 i3
        go_wp2_with fail
        rw [HWW.out]
        exact bodyPost_ret (v := .tuple #[.agg #[.slice a0 L0.length c0, .slice a1 L1.length c1, .slice a2 L2.length c2, .slice a3 L3.length c3], .int .i64 0]) (results_prints1 rfl rfl rfl HBB.out) rfl ⟨_, rfl, by rw [← HPr.out]; exact ⟨_, _, _, _, rfl, HQ.out.1, HQ.out.2.1, HQ.out.2.2.1, HQ.out.2.2.2.1⟩, HQ.out.2.2.2.2⟩
  · have HO : Hid (ofL log = (noPrints, wrongV log)) := by show _ = _; unfold ofL; rw [if_neg hw]
    rw [HO.out]
    generalize wrongV log = q at hw hw1 ⊢
    obtain ⟨⟨gx, g0, g1, g2, g3⟩, gf⟩ := id hR
    have f0 := gf 0
    have f1 := gf 1
    have f2 := gf 2
    have f3 := gf 3
    have hB := box4_store hR.1 (.slice none 0 0) (.slice none 0 0) (.slice none 0 0) (.slice none 0 0)
    have hx1 : w.heap.size ≤ x + 1 := by rw [HX.out]; omega
    have bw' := (((Hbw.out.setCell (p := ⟨x + 1, 0, none⟩) hx1 (.slice none 0 0)).setCell (p := ⟨x + 1, 1, none⟩) hx1 (.slice none 0 0)).setCell (p := ⟨x + 1, 2, none⟩) hx1 (.slice none 0 0)).setCell (p := ⟨x + 1, 3, none⟩) hx1 (.slice none 0 0)
    obtain ⟨W, HW⟩ : ∃ W, Hid ((((w0.setCell ⟨x + 1, 0, none⟩ (.slice none 0 0)).setCell ⟨x + 1, 1, none⟩ (.slice none 0 0)).setCell ⟨x + 1, 2, none⟩ (.slice none 0 0)).setCell ⟨x + 1, 3, none⟩ (.slice none 0 0) = W) := ⟨_, rfl⟩
    rw [HW.out] at hB bw'
    clear hx1
    go_enter Try.func8, Try.ntmps8
    go_upto_region 1 with fail
    rw [H1.out, H0.out, HX.out]
    go_wp2_with (go_at_call 10; refine hw1.mono ?_; rintro e w2 ⟨rfl, hq⟩; rw [hq]; clear hq)
    rw [HW.out]
    exact bodyPost_ret (v := .tuple #[.agg #[.slice none 0 0, .slice none 0 0, .slice none 0 0, .slice none 0 0], .int .i64 q]) (results_prints1 rfl rfl rfl hB) rfl ⟨_, rfl, printsV_none _, bw'⟩

end Go.Proofs.Ytlknegihhcdhbaa

/- slices.Equal over pairs that are the same. -/
namespace Go.Proofs.Ytlknegihhcdhbaa
open Go.RowKit
set_option linter.unusedVariables false
set_option linter.unusedSimpArgs false
set_option maxRecDepth 4000

theorem cellsP_at {l : List (Int × Int)} {k : Nat} (hk : k < l.length) : (cellsP l)[k * 2]? = some (.int .i64 (prAt l k).1) ∧ (cellsP l)[k * 2 + 1]? = some (.int .i64 (prAt l k).2) := by
  have e0 := cellsP_get l (k * 2) (by omega)
  have e1 := cellsP_get l (k * 2 + 1) (by omega)
  rw [show k * 2 / 2 = k by omega, show k * 2 % 2 = 0 by omega] at e0
  rw [show (k * 2 + 1) / 2 = k by omega, show (k * 2 + 1) % 2 = 1 by omega] at e1
  rw [getElem!_pos (cellsP l) _ (by rw [cellsP_len]; omega)] at e0 e1
  have h0 : prAt l k = l[k]! := by unfold prAt; rw [getElem!_pos l k hk, List.getD_eq_getElem?_getD, List.getElem?_eq_getElem hk]; rfl
  rw [h0]
  exact ⟨by rw [List.getElem?_eq_getElem (by rw [cellsP_len]; omega), e0]; rfl, by rw [List.getElem?_eq_getElem (by rw [cellsP_len]; omega), e1]; rfl⟩
theorem PairsV.at {w : World} {a : Option Addr} {n cap : Nat} {l : List (Int × Int)} (h : PairsV w (.slice a n cap) l) {k : Nat} (hk : k < l.length) :
    ∃ b off, a = some ⟨b, off, none⟩ ∧ b < w.heap.size ∧ w.cell? ⟨b, off + k * 2, none⟩ = some (.int .i64 (prAt l k).1) ∧ w.cell? ⟨b, off + (k * 2 + 1), none⟩ = some (.int .i64 (prAt l k).2) := by
  obtain ⟨_, a', cap', e, hl, hm, hs, h1, hr⟩ := h
  injection e with e1 e2 e3
  subst e1
  obtain ⟨c0, c1⟩ := cellsP_at hk
  obtain ⟨b, off, rfl, hlt, h0⟩ := hr _ _ c0
  obtain ⟨b', off', e, _, h1⟩ := hr _ _ c1
  injection e with e
  injection e with e1 e2
  subst e1 e2
  exact ⟨b, off, rfl, hlt, h0, h1⟩

/-- Two pairs held against each other. -/
theorem eqP (a b c d : Int) (w : World) : (Op.equalIn 10000 38 (.agg #[.int .i64 a, .int .i64 b]) (.agg #[.int .i64 c, .int .i64 d])).run Try.prog w = .ok (a == c && b == d) w := by
  have u3 := Try.underlying3
  have a3 := Try.isAgg3
  have z3 := Try.sizeOf3
  rw [show (10000 : Nat) = 9999 + 1 from rfl, Op.equalIn]
  simp only [Sem.run_bind, run_underlying Try.underlying38, Result.andThen_ok]
  simp only [Std.Legacy.Range.forIn_eq_forIn_range', Std.Legacy.Range.size, Nat.sub_zero, Nat.add_sub_cancel, Nat.div_one, List.range'_succ, List.range'_zero, List.forIn_cons, List.forIn_nil]
  go_simp
  by_cases h1 : a = c <;> by_cases h2 : b = d <;> simp [h1, h2]

set_option maxHeartbeats 1000000 in
theorem eqpairs_same (v u : Value) (l : List (Int × Int)) (w : World) (hv : PairsV w v l) (hu : PairsV w u l) :
    Calls Try.prog 23 #[v, u] w fun e w' => e = .returned (.bool true) ∧ Below w.heap.size w w' := by
  obtain ⟨a, ca, rfl⟩ := pairs_slice1 hv
  obtain ⟨b, cb, rfl⟩ := pairs_slice1 hu
  have hmx := hv.1
  obtain ⟨len, hlen⟩ : ∃ len, len = l.length := ⟨_, rfl⟩
  rw [← hlen] at hv hu hmx ⊢
  have e1 : (((len : Nat) : Int) != (len : Int)) = false := by simp
  go_enter Try.func23, Try.ntmps23
  go_wp2_with fail
  go_loopg [13] len (fun g i wr => ∃ k : Nat, k + g = len ∧ i = .int .i64 k ∧ Below w.heap.size w wr)
  case atStart => exact ⟨0, by omega, rfl, Below.refl _ _⟩
  case round =>
    obtain ⟨k, hkg, rfl, hb⟩ := hrel
    by_cases hkn : k < len
    · have hkl : k < l.length := by omega
      obtain ⟨b1, o1, rfl, _, c0, c1⟩ := (hv.below hb).at hkl
      obtain ⟨b2, o2, rfl, _, d0, d1⟩ := (hu.below hb).at hkl
      generalize (prAt l k).1 = z0 at *
      generalize (prAt l k).2 = z1 at *
      rw [← Nat.add_assoc] at c1 d1
      have heq : ∀ w, (Op.equalIn 10000 38 (.agg #[.int .i64 z0, .int .i64 z1]) (.agg #[.int .i64 z0, .int .i64 z1])).run Try.prog w = .ok true w := fun w => by rw [eqP]; simp
      have R : ∀ j, Below w.heap.size w (wr.drewN j) := fun j => below_drewN hb j
      have HR : Hid _ := R
      clear R hb
      go_wp2_with fail
      go_quiet (fail)
      go_wp2
      go_roundg (gk - 1)
      case measure => omega
      case rel => exact ⟨k + 1, by omega, by go_num, HR.out _⟩
    · go_wp2
      go_ret
      exact ⟨rfl, hb⟩

end Go.Proofs.Ytlknegihhcdhbaa

/- The document's own, of tracks: SamePrints where both are the same. -/
namespace Go.Proofs.Ytlknegihhcdhbaa
open Go.RowKit
set_option linter.unusedVariables false
set_option linter.unusedSimpArgs false
set_option maxRecDepth 4000

set_option maxHeartbeats 2000000 in
theorem sameprints_same (v u : Value) (P : PrintsL) (w : World) (hv : PrintsV w v P) (hu : PrintsV w u P) :
    Calls Try.prog 11 #[v, u] w fun e w' => e = .returned (.bool true) ∧ Below w.heap.size w w' := by
  obtain ⟨L0, L1, L2, L3⟩ := P
  obtain ⟨v0, v1, v2, v3, rfl, p0, p1, p2, p3⟩ := hv
  obtain ⟨u0, u1, u2, u3, rfl, q0, q1, q2, q3⟩ := hu
  obtain ⟨a0, c0, rfl⟩ := ints_slice p0
  obtain ⟨a1, c1, rfl⟩ := ints_slice p1
  obtain ⟨a2, c2, rfl⟩ := ints_slice p2
  obtain ⟨a3, c3, rfl⟩ := pairs_slice p3
  obtain ⟨d0, e0, rfl⟩ := ints_slice q0
  obtain ⟨d1, e1, rfl⟩ := ints_slice q1
  obtain ⟨d2, e2, rfl⟩ := ints_slice q2
  obtain ⟨d3, e3, rfl⟩ := pairs_slice q3
  simp only at p0 p1 p2 p3 q0 q1 q2 q3 ⊢
  have hx := box4_new w (.slice a0 L0.length c0) (.slice a1 L1.length c1) (.slice a2 L2.length c2) (.slice a3 L3.length c3) 26
  have b1 := below_new w (.cells #[.slice a0 L0.length c0, .slice a1 L1.length c1, .slice a2 L2.length c2, .slice a3 L3.length c3] 26)
  have s1 : (w.alloc (.cells #[.slice a0 L0.length c0, .slice a1 L1.length c1, .slice a2 L2.length c2, .slice a3 L3.length c3] 26)).heap.size = w.heap.size + 1 := by simp
  obtain ⟨w1, H1⟩ : ∃ z, Hid (w.alloc (.cells #[.slice a0 L0.length c0, .slice a1 L1.length c1, .slice a2 L2.length c2, .slice a3 L3.length c3] 26) = z) := ⟨_, rfl⟩
  rw [H1.out] at hx b1 s1
  have hy := box4_new w1 (.slice d0 L0.length e0) (.slice d1 L1.length e1) (.slice d2 L2.length e2) (.slice d3 L3.length e3) 26
  have b2 := below_new w1 (.cells #[.slice d0 L0.length e0, .slice d1 L1.length e1, .slice d2 L2.length e2, .slice d3 L3.length e3] 26)
  obtain ⟨w2, H2⟩ : ∃ z, Hid (w1.alloc (.cells #[.slice d0 L0.length e0, .slice d1 L1.length e1, .slice d2 L2.length e2, .slice d3 L3.length e3] 26) = z) := ⟨_, rfl⟩
  rw [H2.out] at hy b2
  rw [s1] at hy
  replace hx := hx.below b2
  have c := below_then b1 b2
  replace p0 := p0.below c
  replace p1 := p1.below c
  replace p2 := p2.below c
  replace p3 := p3.below c
  replace q0 := q0.below c
  replace q1 := q1.below c
  replace q2 := q2.below c
  replace q3 := q3.below c
  obtain ⟨x, HX⟩ : ∃ x, Hid (w.heap.size = x) := ⟨_, rfl⟩
  have Hc : Hid (Below w.heap.size w w2) := c
  rw [HX.out] at hx hy
  clear b1 b2 c s1
  go_enter Try.func11, Try.ntmps11
  go_upto_region 1 with fail
  rw [H1.out, H2.out, HX.out]
  have c : Below w2.heap.size w2 w2 := Below.refl _ _
  obtain ⟨xx, x0, x1, x2, x3⟩ := id hx
  obtain ⟨yy, y0, y1, y2, y3⟩ := id hy
  go_wp2_with fail
  refine (equal_b _ _ L0 L0 _ (by exact p0) (by exact q0)).mono ?_
  rintro e w3 ⟨rfl, b⟩
  rw [beq_self_eq_true]
  clear xx x0 x1 x2 x3 yy y0 y1 y2 y3
  replace hx := hx.below b
  replace hy := hy.below b
  replace p0 := p0.below b
  replace p1 := p1.below b
  replace p2 := p2.below b
  replace p3 := p3.below b
  replace q0 := q0.below b
  replace q1 := q1.below b
  replace q2 := q2.below b
  replace q3 := q3.below b
  replace c := below_then c b
  clear b
  obtain ⟨xx, x0, x1, x2, x3⟩ := id hx
  obtain ⟨yy, y0, y1, y2, y3⟩ := id hy
  go_wp2_with fail
  refine (equal_b _ _ L1 L1 _ (by exact p1) (by exact q1)).mono ?_
  rintro e w4 ⟨rfl, b⟩
  rw [beq_self_eq_true]
  clear xx x0 x1 x2 x3 yy y0 y1 y2 y3
  replace hx := hx.below b
  replace hy := hy.below b
  replace p0 := p0.below b
  replace p1 := p1.below b
  replace p2 := p2.below b
  replace p3 := p3.below b
  replace q0 := q0.below b
  replace q1 := q1.below b
  replace q2 := q2.below b
  replace q3 := q3.below b
  replace c := below_then c b
  clear b
  obtain ⟨xx, x0, x1, x2, x3⟩ := id hx
  obtain ⟨yy, y0, y1, y2, y3⟩ := id hy
  go_wp2_with fail
  refine (equal_b _ _ L2 L2 _ (by exact p2) (by exact q2)).mono ?_
  rintro e w5 ⟨rfl, b⟩
  rw [beq_self_eq_true]
  clear xx x0 x1 x2 x3 yy y0 y1 y2 y3
  replace hx := hx.below b
  replace hy := hy.below b
  replace p0 := p0.below b
  replace p1 := p1.below b
  replace p2 := p2.below b
  replace p3 := p3.below b
  replace q0 := q0.below b
  replace q1 := q1.below b
  replace q2 := q2.below b
  replace q3 := q3.below b
  replace c := below_then c b
  clear b
  obtain ⟨xx, x0, x1, x2, x3⟩ := id hx
  obtain ⟨yy, y0, y1, y2, y3⟩ := id hy
  go_wp2_with fail
  refine (eqpairs_same _ _ L3 _ (by exact p3) (by exact q3)).mono ?_
  rintro e w6 ⟨rfl, b⟩
  clear xx x0 x1 x2 x3 yy y0 y1 y2 y3
  replace hx := hx.below b
  replace hy := hy.below b
  replace p0 := p0.below b
  replace p1 := p1.below b
  replace p2 := p2.below b
  replace p3 := p3.below b
  replace q0 := q0.below b
  replace q1 := q1.below b
  replace q2 := q2.below b
  replace q3 := q3.below b
  replace c := below_then c b
  clear b
  have c' := below_then Hc.out c
  clear hx hy p0 p1 p2 p3 q0 q1 q2 q3 c
  go_wp2
  go_ret
  exact ⟨rfl, c'⟩

end Go.Proofs.Ytlknegihhcdhbaa

/- The document's own, of tracks: what VOnto leaves out. -/
namespace Go.Proofs.Ytlknegihhcdhbaa
open Go.RowKit Go.Lib Go.Sort
set_option linter.unusedVariables false
set_option linter.unusedSimpArgs false
set_option maxRecDepth 4000

theorem vonto1_asks (w0 : World) (x : Nat) (v : Value) (b : List Int) (hx : Box1 w0 x v) (hv : Ints w0 v b) : AsksQ1 w0 45 (.pointer (some ⟨x, 0, none⟩)) (fun y => !hasL b y) := by
  intro y w hb
  have hx1 := (hx.below hb).2
  have hv1 := hv.below hb
  obtain ⟨a, c, rfl⟩ := ints_slice hv
  have hc := contains_any _ b y w hv1
  obtain ⟨q, Hq⟩ : ∃ q, Hid (hasL b y = q) := ⟨_, rfl⟩
  rw [Hq.out] at hc
  show Calls _ _ _ _ fun e w' => e = .returned (.bool (!hasL b y)) ∧ _
  rw [Hq.out]
  go_enter Try.func45, Try.ntmps45
  go_wp2_with (go_at_call 26; refine hc.mono ?_; rintro e w5 ⟨rfl, rfl⟩)
  go_ret
  exact ⟨rfl, Below.refl _ _⟩
theorem vonto1_enters : ∀ args w, (callFunc 45 args).run Try.prog w = .ok (.enter 45 args) w := enters_of Try.func45 (by kernel_rfl) rfl

end Go.Proofs.Ytlknegihhcdhbaa

/- The document's own, of tracks: VOnto. -/
namespace Go.Proofs.Ytlknegihhcdhbaa
open Go.RowKit Go.Lib Go.Sort
set_option linter.unusedVariables false
set_option linter.unusedSimpArgs false
set_option maxRecDepth 4000

theorem ints_from {B : Nat} {w : World} {u : Value} {xs : List Int} (h : Ints w u xs) (hB : ∀ a n c, u = .slice (some a) n c → B ≤ a.block) : On (fun k => B ≤ k) w (fun w' => Ints w' u xs) := by
  obtain ⟨a, len, cap, rfl, hl, hm, hs, hr⟩ := h
  intro w' hsz hk
  refine ⟨a, len, cap, rfl, hl, hm, hs, fun j hj => ?_⟩
  obtain ⟨b, off, ha, hlt, hc⟩ := hr j hj
  refine ⟨b, off, ha, Nat.lt_of_lt_of_le hlt hsz, ?_⟩
  rw [← hc]
  exact World.cell?_of_block (a := ⟨b, off + j, none⟩) (hk b hlt (by have := hB ⟨b, off, none⟩ len cap (by rw [ha]); exact this))
theorem onto_takes {log : List (List Int)} {k : Nat} (ls : List Int) (h : k < log.length) : ontoL (log.take (k + 1)) ls = ontoL (log.take k) ls ++ [ontoT ls (log.getD k [])] := by
  unfold ontoL
  rw [List.take_add_one, List.getElem?_eq_getElem h, List.map_append, List.getD_eq_getElem?_getD, List.getElem?_eq_getElem h]
  rfl
theorem onto_not (ls t : List Int) : (t.filter fun x => !(!hasL ls x)) = ontoT ls t := by
  unfold ontoT
  refine List.filter_congr fun x _ => ?_
  unfold hasL
  rw [Bool.not_not]

set_option maxHeartbeats 4000000 in
theorem vonto_any (v u : Value) (log : List (List Int)) (ls : List Int) (w : World) (hv : Lists w v log) (hu : Ints w u ls) (hlog : log.length ≤ 5864062014805) :
    Calls Try.prog 14 #[v, u] w fun e w' => ∃ r, e = .returned r ∧ Lists w' r (ontoL log ls) ∧ Below w.heap.size w w' := by
  obtain ⟨a, len, cap, rfl, hlen, hmx, hsh, hr⟩ := id hv
  obtain ⟨ba, bc, rfl⟩ := ints_slice hu
  have Hlen : Hid (log.length = len) := hlen
  rw [Hlen.out] at hlog
  clear hlen hr hsh
  have c := below_new w (.cells #[.slice ba ls.length bc] 23)
  have hx := box1_new w (.slice ba ls.length bc) 23
  replace hv := hv.below c
  replace hu := hu.below c
  obtain ⟨x, HX⟩ : ∃ x, Hid (w.heap.size = x) := ⟨_, rfl⟩
  obtain ⟨w1, H1⟩ : ∃ u, Hid (w.alloc (.cells #[.slice ba ls.length bc] 23) = u) := ⟨_, rfl⟩
  rw [H1.out] at c hx hv hu
  rw [HX.out] at hx
  go_enter Try.func14, Try.ntmps14
  go_upto_region 1 with fail
  rw [H1.out, HX.out]
  go_wp2_with fail
  have L0 : LsOut w1.heap.size w1 w1 (.slice none 0 0) [] := LsOut.start _ (Below.refl _ _) (Nat.le_refl _)
  go_loopg [5, 10] len (fun gk o i' wr => ∃ (k : Nat) (cs : List (Value × List Int)), k + gk = len ∧ i' = .int .i64 (k : Int) ∧ LsOut w1.heap.size w1 wr o cs ∧ Hid (cs.map (·.2) = ontoL (log.take k) ls))
  case atStart => exact ⟨0, [], by omega, rfl, L0, rfl⟩
  case round =>
    clear L0
    obtain ⟨k, cs, hkg, rfl, hL, HC⟩ := hrel
    obtain ⟨W0, rfl⟩ : ∃ z, z = wr := ⟨_, rfl⟩
    obtain ⟨oa, ol, oc, rfl⟩ := hL.slice
    have Hcl : Hid (cs.length ≤ k) := by
      show _ ≤ _
      have h2 := congrArg List.length HC.out
      unfold ontoL at h2
      rw [List.length_map, List.length_map, List.length_take] at h2
      omega
    have bk := hL.below
    by_cases hk : k < len
    · obtain ⟨b2, o2, uv, rfl, hlt2, c2, iu⟩ := lists_at (hv.below bk) hk
      have HtK : Hid (ontoL (log.take (k + 1)) ls = ontoL (log.take k) ls ++ [ontoT ls (log.getD k [])]) := onto_takes ls (by rw [Hlen.out]; exact hk)
      obtain ⟨t, HT⟩ : ∃ t, Hid (log.getD k [] = t) := ⟨_, rfl⟩
      rw [HT.out] at iu HtK
      obtain ⟨ua, uc, rfl⟩ := ints_slice iu
      have htl : t.length ≤ 17592186044416 := by obtain ⟨_, _, _, _, h1, h2, _⟩ := id iu; omega
      have hask := vonto1_asks W0 x _ ls (hx.below bk) (hu.below bk)
      clear hlt2
      go_wp2_with fail
      refine (clone_any _ t _ (by exact iu)).mono ?_
      rintro e w3 ⟨r, rfl, hO⟩
      go_wp2_with fail
      refine (deletefuncQ1 W0 _ _ _ hask vonto1_enters r t w3 hO htl).mono ?_
      rintro e w4 ⟨u4, rfl, hu4, hu4b, b2⟩
      rw [onto_not] at hu4
      have hon := ints_from hu4 hu4b
      obtain ⟨a1, p1, rfl⟩ := ints_slice hu4
      have hL4 := hL.to b2
      have hk1 : On (fun k => w1.heap.size ≤ k ∧ some k ≠ (Value.slice oa ol oc).ownBlock) w4 (fun w' => Ints w' (.slice a1 (ontoT ls t).length p1) (ontoT ls t)) := hon.weaken fun q hq hB => ⟨Nat.le_trans hL.size hB, fun e => by
        have := (ownsRow_lt hL.own e.symm).2
        omega⟩
      have hn1 : cs.length + 1 ≤ 5864062014805 := by have := Hcl.out; omega
      clear hask hO hu4 hu4b hon c2 iu
      go_wp2_with (at_builtin; refine wp_append_ls rfl _ _ rfl w1.heap.size w1 w4 _ cs (ontoT ls t) a1 (ontoT ls t).length p1 hL4 hk1 rfl rfl hn1 ?_; intro v' w6 hL6 bL6; obtain ⟨a', l', c', rfl⟩ := hL6.slice)
      have HCn : Hid ((cs ++ [((.slice a1 (ontoT ls t).length p1 : Value), ontoT ls t)]).map (·.2) = ontoL (log.take (k + 1)) ls) := by
        show _ = _
        rw [List.map_append, HC.out, HtK.out]
        rfl
      clear hL hL4 hk1 bk b2 bL6
      go_wp2
      go_roundg (gk - 1)
      case measure => omega
      case rel => exact ⟨k + 1, _, by omega, by go_num, hL6, HCn⟩
    · obtain rfl : k = len := by omega
      have R := hL.lists (by have := Hcl.out; omega)
      rw [HC.out, List.take_of_length_le (by rw [Hlen.out]; exact Nat.le_refl _)] at R
      have b5 := below_then c bk
      clear hL bk
      go_wp2
      go_ret
      exact ⟨_, rfl, R, b5⟩

end Go.Proofs.Ytlknegihhcdhbaa
