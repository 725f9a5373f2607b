import Derived.Test.YtlknegihhcdhbaaTrRiseI
import Derived.Test.YtlknegihhcdhbaaGr09
import Derived.Test.YtlknegihhcdhbaaGr06
import Derived.Test.YtlknegihhcdhbaaGr03
import Derived.Test.YtlknegihhcdhbaaGr04
import Derived.Test.YtlknegihhcdhbaaGr00
/- What the traces have shown so far: four sets. -/
namespace Go.Proofs.Ytlknegihhcdhbaa
open Go.RowKit
set_option linter.unusedVariables false
set_option linter.unusedSimpArgs false
set_option maxRecDepth 4000

theorem SetA.mono {α : Type} {K : TypeId} {lit : α → Lit} {ok : α → Prop} {w : World} {b n n' : Nat} {S : α → Prop} (h : SetA K lit ok w b n S) (hn : n ≤ n') : SetA K lit ok w b n' S := by
  obtain ⟨D, h1, h2⟩ := h; exact ⟨D, h1.mono hn, h2⟩
def firstP (t : List Int) (x : Int) : Prop := t ≠ [] ∧ x = nth t 0
def lastP (t : List Int) (x : Int) : Prop := t ≠ [] ∧ x = nth t (t.length - 1)
def behP (t : List Int) (k : Nat) (p : Int × Int) : Prop := ∃ j, 0 < j ∧ j < k ∧ nth t (j - 1) = p.1 ∧ nth t j = p.2

/-- Four sets at work. -/
structure SeenAt (w0 wq w : World) (b0 b1 b2 b3 n : Nat) (S0 S1 S2 : Int → Prop) (S3 : Int × Int → Prop) : Prop where
  s0 : SetI w b0 n S0
  s1 : SetI w b1 n S1
  s2 : SetI w b2 n S2
  s3 : SetP w b3 n S3
  ge : w0.heap.size ≤ b0 ∧ w0.heap.size ≤ b1 ∧ w0.heap.size ≤ b2 ∧ w0.heap.size ≤ b3
  ne : b0 ≠ b1 ∧ b0 ≠ b2 ∧ b0 ≠ b3 ∧ b1 ≠ b2 ∧ b1 ≠ b3 ∧ b2 ≠ b3
  below : Below w0.heap.size w0 w
  sizeq : wq.heap.size ≤ w.heap.size
  kept : ∀ q, q < wq.heap.size → q ≠ b0 → q ≠ b1 → q ≠ b2 → q ≠ b3 → w.heap[q]? = wq.heap[q]?
section
variable {w0 wq w w' : World} {b0 b1 b2 b3 n : Nat} {S0 S1 S2 : Int → Prop} {S3 : Int × Int → Prop}
theorem SeenAt.size (h : SeenAt w0 wq w b0 b1 b2 b3 n S0 S1 S2 S3) : w0.heap.size ≤ w.heap.size := h.below.size
theorem SeenAt.to (h : SeenAt w0 wq w b0 b1 b2 b3 n S0 S1 S2 S3) (hb : Below w.heap.size w w') : SeenAt w0 wq w' b0 b1 b2 b3 n S0 S1 S2 S3 :=
  ⟨h.s0.below hb, h.s1.below hb, h.s2.below hb, h.s3.below hb, h.ge, h.ne, h.below.trans (hb.mono h.size), Nat.le_trans h.sizeq hb.size, fun q hq k0 k1 k2 k3 => (hb.block q (Nat.lt_of_lt_of_le hq h.sizeq)).trans (h.kept q hq k0 k1 k2 k3)⟩
theorem SeenAt.mono (h : SeenAt w0 wq w b0 b1 b2 b3 n S0 S1 S2 S3) {n' : Nat} (hn : n ≤ n') : SeenAt w0 wq w b0 b1 b2 b3 n' S0 S1 S2 S3 :=
  ⟨h.s0.mono hn, h.s1.mono hn, h.s2.mono hn, h.s3.mono hn, h.ge, h.ne, h.below, h.sizeq, h.kept⟩
theorem SeenAt.add0 (h : SeenAt w0 wq w b0 b1 b2 b3 n S0 S1 S2 S3) {S : Int → Prop} (hs : SetI w' b0 (n + 1) S) (hg : w.grownBy w' (some b0)) : SeenAt w0 wq w' b0 b1 b2 b3 (n + 1) S S1 S2 S3 := by
  obtain ⟨e1, e2, e3, e4, e5, e6⟩ := h.ne
  exact ⟨hs, (h.s1.kept hg (fun e => by injection e with e; omega)).mono (by omega), (h.s2.kept hg (fun e => by injection e with e; omega)).mono (by omega), (h.s3.kept hg (fun e => by injection e with e; omega)).mono (by omega), h.ge, h.ne, h.below.grown hg h.size (fun j e => by injection e with e; have := h.ge; omega), Nat.le_trans h.sizeq hg.size, fun q hq k0 k1 k2 k3 => (hg.block q (Nat.lt_of_lt_of_le hq h.sizeq) (fun e => by injection e with e; exact k0 e)).trans (h.kept q hq k0 k1 k2 k3)⟩
theorem SeenAt.add1 (h : SeenAt w0 wq w b0 b1 b2 b3 n S0 S1 S2 S3) {S : Int → Prop} (hs : SetI w' b1 (n + 1) S) (hg : w.grownBy w' (some b1)) : SeenAt w0 wq w' b0 b1 b2 b3 (n + 1) S0 S S2 S3 := by
  obtain ⟨e1, e2, e3, e4, e5, e6⟩ := h.ne
  exact ⟨(h.s0.kept hg (fun e => by injection e with e; omega)).mono (by omega), hs, (h.s2.kept hg (fun e => by injection e with e; omega)).mono (by omega), (h.s3.kept hg (fun e => by injection e with e; omega)).mono (by omega), h.ge, h.ne, h.below.grown hg h.size (fun j e => by injection e with e; have := h.ge; omega), Nat.le_trans h.sizeq hg.size, fun q hq k0 k1 k2 k3 => (hg.block q (Nat.lt_of_lt_of_le hq h.sizeq) (fun e => by injection e with e; exact k1 e)).trans (h.kept q hq k0 k1 k2 k3)⟩
theorem SeenAt.add2 (h : SeenAt w0 wq w b0 b1 b2 b3 n S0 S1 S2 S3) {S : Int → Prop} (hs : SetI w' b2 (n + 1) S) (hg : w.grownBy w' (some b2)) : SeenAt w0 wq w' b0 b1 b2 b3 (n + 1) S0 S1 S S3 := by
  obtain ⟨e1, e2, e3, e4, e5, e6⟩ := h.ne
  exact ⟨(h.s0.kept hg (fun e => by injection e with e; omega)).mono (by omega), (h.s1.kept hg (fun e => by injection e with e; omega)).mono (by omega), hs, (h.s3.kept hg (fun e => by injection e with e; omega)).mono (by omega), h.ge, h.ne, h.below.grown hg h.size (fun j e => by injection e with e; have := h.ge; omega), Nat.le_trans h.sizeq hg.size, fun q hq k0 k1 k2 k3 => (hg.block q (Nat.lt_of_lt_of_le hq h.sizeq) (fun e => by injection e with e; exact k2 e)).trans (h.kept q hq k0 k1 k2 k3)⟩
theorem SeenAt.add3 (h : SeenAt w0 wq w b0 b1 b2 b3 n S0 S1 S2 S3) {S : Int × Int → Prop} (hs : SetP w' b3 (n + 1) S) (hg : w.grownBy w' (some b3)) : SeenAt w0 wq w' b0 b1 b2 b3 (n + 1) S0 S1 S2 S := by
  obtain ⟨e1, e2, e3, e4, e5, e6⟩ := h.ne
  exact ⟨(h.s0.kept hg (fun e => by injection e with e; omega)).mono (by omega), (h.s1.kept hg (fun e => by injection e with e; omega)).mono (by omega), (h.s2.kept hg (fun e => by injection e with e; omega)).mono (by omega), hs, h.ge, h.ne, h.below.grown hg h.size (fun j e => by injection e with e; have := h.ge; omega), Nat.le_trans h.sizeq hg.size, fun q hq k0 k1 k2 k3 => (hg.block q (Nat.lt_of_lt_of_le hq h.sizeq) (fun e => by injection e with e; exact k3 e)).trans (h.kept q hq k0 k1 k2 k3)⟩
theorem SeenAt.same (h : SeenAt w0 wq w b0 b1 b2 b3 n S0 S1 S2 S3) {T0 T1 T2 : Int → Prop} {T3 : Int × Int → Prop} (h0 : ∀ x, S0 x ↔ T0 x) (h1 : ∀ x, S1 x ↔ T1 x) (h2 : ∀ x, S2 x ↔ T2 x) (h3 : ∀ x, S3 x ↔ T3 x) : SeenAt w0 wq w b0 b1 b2 b3 n T0 T1 T2 T3 :=
  ⟨h.s0.same fun x _ => h0 x, h.s1.same fun x _ => h1 x, h.s2.same fun x _ => h2 x, h.s3.same fun x _ => h3 x, h.ge, h.ne, h.below, h.sizeq, h.kept⟩
end

/-- A box of four cells, that no set lies in. -/
def Box4 (w : World) (x : Nat) (v0 v1 v2 v3 : Value) : Prop := x < w.heap.size ∧ w.cell? ⟨x, 0, none⟩ = some v0 ∧ w.cell? ⟨x, 1, none⟩ = some v1 ∧ w.cell? ⟨x, 2, none⟩ = some v2 ∧ w.cell? ⟨x, 3, none⟩ = some v3
theorem box4_new (w : World) (v0 v1 v2 v3 : Value) (t : TypeId) : Box4 (w.alloc (.cells #[v0, v1, v2, v3] t)) w.heap.size v0 v1 v2 v3 :=
  ⟨by simp, by rw [World.cell?_alloc_at _ _ _ _ rfl]; rfl, by rw [World.cell?_alloc_at _ _ _ _ rfl]; rfl, by rw [World.cell?_alloc_at _ _ _ _ rfl]; rfl, by rw [World.cell?_alloc_at _ _ _ _ rfl]; rfl⟩
theorem Box4.below {w w' : World} {x : Nat} {v0 v1 v2 v3 : Value} (h : Box4 w x v0 v1 v2 v3) (hb : Below w.heap.size w w') : Box4 w' x v0 v1 v2 v3 := by
  obtain ⟨hx, h0, h1, h2, h3⟩ := h
  exact ⟨Nat.lt_of_lt_of_le hx hb.size, by rw [hb.cell (p := ⟨x, 0, none⟩) hx]; exact h0, by rw [hb.cell (p := ⟨x, 1, none⟩) hx]; exact h1, by rw [hb.cell (p := ⟨x, 2, none⟩) hx]; exact h2, by rw [hb.cell (p := ⟨x, 3, none⟩) hx]; exact h3⟩
theorem Box4.grown {w w' : World} {x b : Nat} {v0 v1 v2 v3 : Value} (h : Box4 w x v0 v1 v2 v3) (hg : w.grownBy w' (some b)) (hne : x ≠ b) : Box4 w' x v0 v1 v2 v3 := by
  obtain ⟨hx, h0, h1, h2, h3⟩ := h
  have hB : w'.heap[x]? = w.heap[x]? := hg.block x hx (fun e => by injection e with e; omega)
  exact ⟨Nat.lt_of_lt_of_le hx hg.size, (World.cell?_of_block (a := ⟨x, 0, none⟩) hB).trans h0, (World.cell?_of_block (a := ⟨x, 1, none⟩) hB).trans h1, (World.cell?_of_block (a := ⟨x, 2, none⟩) hB).trans h2, (World.cell?_of_block (a := ⟨x, 3, none⟩) hB).trans h3⟩

end Go.Proofs.Ytlknegihhcdhbaa

/- look: what a trace shows. -/
namespace Go.Proofs.Ytlknegihhcdhbaa
open Go.RowKit
set_option linter.unusedVariables false
set_option linter.unusedSimpArgs false
set_option maxRecDepth 4000

theorem behP_succ (t : List Int) (k : Nat) (p : Int × Int) : behP t (k + 1) p ↔ behP t k p ∨ (0 < k ∧ p = (nth t (k - 1), nth t k)) := by
  unfold behP
  constructor
  · rintro ⟨j, h0, h1, h2, h3⟩
    by_cases e : j = k
    · subst e; exact .inr ⟨h0, Prod.ext h2.symm h3.symm⟩
    · exact .inl ⟨j, h0, by omega, h2, h3⟩
  · rintro (⟨j, h0, h1, h2, h3⟩ | ⟨h0, rfl⟩)
    · exact ⟨j, h0, by omega, h2, h3⟩
    · exact ⟨k, h0, by omega, rfl, rfl⟩

theorem ints_cells {w : World} {a : Option Addr} {len cap : Nat} {xs : List Int} (h : Ints w (.slice a len cap) xs) (hp : 0 < len) : ∃ b off, a = some ⟨b, off, none⟩ ∧ b < w.heap.size ∧ ∀ k, k < len → w.cell? ⟨b, off + k, none⟩ = some (.int .i64 (nth xs k)) := by
  obtain ⟨b, off, rfl, hlt, _⟩ := ints_atL h hp
  refine ⟨b, off, rfl, hlt, fun k hk => ?_⟩
  obtain ⟨b', off', e, _, hc⟩ := ints_atL h hk
  injection e with e
  injection e with e1 e2
  subst e1 e2
  exact hc

set_option maxHeartbeats 4000000 in
theorem look_any (w0 wq w : World) (b0 b1 b2 b3 n : Nat) (S0 S1 S2 : Int → Prop) (S3 : Int × Int → Prop) (h : SeenAt w0 wq w b0 b1 b2 b3 n S0 S1 S2 S3) (v : Value) (t : List Int) (hv : Ints w0 v t) (ht : ∀ x ∈ t, okI x) (hl : t.length ≤ 60) (hn : n + 200 ≤ 1000000) :
    Calls Try.prog 30 #[.agg #[.map (some b0), .map (some b1), .map (some b2), .map (some b3)], v] w fun e w' => e = .returned (.tuple #[]) ∧
      SeenAt w0 wq w' b0 b1 b2 b3 (n + 200) (fun x => S0 x ∨ x ∈ t) (fun x => S1 x ∨ firstP t x) (fun x => S2 x ∨ lastP t x) (fun p => S3 p ∨ behP t t.length p) := by
  obtain ⟨a, len, cap, rfl, hlen, hmx, hsh, hr⟩ := id hv
  have Hlen : Hid (t.length = len) := hlen
  rw [Hlen.out] at hl
  clear hlen hsh hr
  have Ht : Hid (∀ k, k < len → okI (nth t k)) := fun k hk => ht _ (by rw [nth_get (by rw [Hlen.out]; exact hk)]; exact List.getElem_mem _)
  clear ht
  have hbx := box4_new w (.map (some b0)) (.map (some b1)) (.map (some b2)) (.map (some b3)) 58
  have hS := h.to (below_new w (.cells #[.map (some b0), .map (some b1), .map (some b2), .map (some b3)] 58))
  have hxb : Hid (w.heap.size ≠ b0 ∧ w.heap.size ≠ b1 ∧ w.heap.size ≠ b2 ∧ w.heap.size ≠ b3) := by
    have := h.s0.lt; have := h.s1.lt; have := h.s2.lt; have := h.s3.lt
    show _ ∧ _
    omega
  obtain ⟨w1, H1⟩ : ∃ u, Hid (w.alloc (.cells #[.map (some b0), .map (some b1), .map (some b2), .map (some b3)] 58) = u) := ⟨_, rfl⟩
  rw [H1.out] at hbx hS
  clear h
  go_enter Try.func30, Try.ntmps30
  go_upto_region 1 with fail
  rw [H1.out]
  by_cases hz : len = 0
  · subst hz
    have ht0 : t = [] := List.length_eq_zero_iff.1 Hlen.out
    subst ht0
    have hS' := (hS.mono (n' := n + 200) (by omega)).same (T0 := fun x => S0 x ∨ x ∈ ([] : List Int)) (T1 := fun x => S1 x ∨ firstP [] x) (T2 := fun x => S2 x ∨ lastP [] x) (T3 := fun p => S3 p ∨ behP [] ([] : List Int).length p)
      (fun x => by simp) (fun x => by simp [firstP]) (fun x => by simp [lastP]) (fun x => by unfold behP; simp)
    clear hS
    go_wp2
    (try simp only [Exit.inBlock, Exit.then])
    refine bodyPost_ret (results_none rfl _ _ _) rfl ?_
    exact ⟨rfl, hS'⟩
  · have Hne : Hid (t ≠ []) := fun e => by have := Hlen.out; rw [e] at this; exact hz this.symm
    have hpos : 0 < len := by omega
    obtain ⟨tb, tf, rfl, hltb, hcs⟩ := ints_cells hv hpos
    have HC : Hid (∀ (wr : World) k, k < len → Below w0.heap.size w0 wr → wr.cell? ⟨tb, tf + k, none⟩ = some (.int .i64 (nth t k))) := fun wr k hk hb => by rw [hb.cell (p := ⟨tb, tf + k, none⟩) hltb]; exact hcs k hk
    clear hcs
    have c0 := HC.out w1 0 hpos hS.below
    have cL := HC.out w1 (len - 1) (by omega) hS.below
    obtain ⟨z0, Hz0⟩ : ∃ z, Hid (nth t 0 = z) := ⟨_, rfl⟩
    obtain ⟨zl, Hzl⟩ : ∃ z, Hid (nth t (len - 1) = z) := ⟨_, rfl⟩
    have Hok0 : Hid (okI z0) := by show okI _; rw [← Hz0.out]; exact Ht.out 0 hpos
    have Hokl : Hid (okI zl) := by show okI _; rw [← Hzl.out]; exact Ht.out _ (by omega)
    rw [Hz0.out] at c0
    rw [Hzl.out] at cL
    obtain ⟨x0, x1, x2, x3, x4⟩ := id hbx
    have i0 : (0 : Int) < (len : Int) := by omega
    rw [Nat.add_zero] at c0
    go_upto_region 2 with fail
    go_region_held3 (fun w' => w'.cell? ⟨w.heap.size, 1, none⟩ = some (.map (some b1)) ∧ w'.cell? ⟨tb, tf, none⟩ = some (.int .i64 z0))
      (go_keep)
      (first
        | (go_at_call 57; refine (addI_any b1 n z0 S1 _ ?_ Hok0.out (by omega)).mono ?_; (exact (hS.to (Below.refl _ _).drew).s1); rintro e w2 ⟨rfl, hs2, hg2⟩; have hS2 := (hS.to (Below.refl _ _).drew).add1 hs2 hg2; have hb2 := (hbx.below (Below.refl _ _).drew).grown hg2 hxb.out.2.1; obtain ⟨y0, y1, y2, y3, y4⟩ := id hb2; have d0 := HC.out w2 0 hpos hS2.below; rw [Hz0.out, Nat.add_zero] at d0))
    have H2 := hS2.same (T0 := S0) (T1 := fun x => S1 x ∨ firstP t x) (T2 := S2) (T3 := S3) (fun x => Iff.rfl) (fun x => by unfold firstP; rw [Hz0.out]; exact or_congr_right ⟨fun e => ⟨Hne.out, e⟩, fun e => e.2⟩) (fun x => Iff.rfl) (fun x => Iff.rfl)
    clear hS2 hs2 hg2 hS hbx x0 x1 x2 x3 x4 c0 cL d0
    have cL := HC.out w2 (len - 1) (by omega) H2.below
    rw [Hzl.out] at cL
    have wL : IntKind.i64.wrap ((len : Int) - 1) = ((len - 1 : Nat) : Int) := by rw [show ((len : Int) - 1) = ((len - 1 : Nat) : Int) by omega]; exact Go.IntWalk.i64_in _ ⟨by omega, by omega⟩
    have iL : (0 : Int) ≤ ((len - 1 : Nat) : Int) := by omega
    have jL : ((len - 1 : Nat) : Int) < (len : Int) := by omega
    have kL : len - 1 < len := by omega
    go_upto_region 3 with fail
    go_region_held3 (fun w' => w'.cell? ⟨w.heap.size, 2, none⟩ = some (.map (some b2)) ∧ w'.cell? ⟨tb, tf + (len - 1), none⟩ = some (.int .i64 zl))
      (go_keep)
      (first
        | (go_at_call 57; refine (addI_any b2 (n + 1) zl S2 _ ?_ Hokl.out (by omega)).mono ?_; (exact (H2.to (Below.refl _ _).drew).s2); rintro e w3 ⟨rfl, hs3, hg3⟩; have hS3 := (H2.to (Below.refl _ _).drew).add2 hs3 hg3; have hb3 := (hb2.below (Below.refl _ _).drew).grown hg3 hxb.out.2.2.1; obtain ⟨z0', z1, z2, z3, z4⟩ := id hb3; have dL := HC.out w3 (len - 1) (by omega) hS3.below; rw [Hzl.out] at dL))
    have H3 := (hS3.same (T0 := fun x => S0 x ∨ x ∈ t.take 0) (T1 := fun x => S1 x ∨ firstP t x) (T2 := fun x => S2 x ∨ lastP t x) (T3 := fun p => S3 p ∨ behP t 0 p) (fun x => by simp) (fun x => Iff.rfl)
      (fun x => by unfold lastP; rw [Hlen.out, Hzl.out]; exact or_congr_right ⟨fun e => ⟨Hne.out, e⟩, fun e => e.2⟩) (fun x => by unfold behP; simp)).mono (n' := n + 2 + 2 * 0) (by omega)
    clear hS3 hs3 hg3 H2 hb2 y0 y1 y2 y3 y4 z0' z1 z2 z3 z4 cL dL wL iL jL kL Hok0 Hokl Hz0 Hzl i0
    obtain ⟨xb, HX⟩ : ∃ x, Hid (w.heap.size = x) := ⟨_, rfl⟩
    rw [HX.out] at hb3 hxb ⊢
    go_wp2_with fail
    go_loopg [26] len (fun gk i' wr => ∃ k : Nat, k + gk = len ∧ i' = .int .i64 (k : Int) ∧ SeenAt w0 wq wr b0 b1 b2 b3 (n + 2 + 2 * k) (fun x => S0 x ∨ x ∈ t.take k) (fun x => S1 x ∨ firstP t x) (fun x => S2 x ∨ lastP t x) (fun p => S3 p ∨ behP t k p) ∧
      Box4 wr xb (.map (some b0)) (.map (some b1)) (.map (some b2)) (.map (some b3)))
    case atStart => exact ⟨0, by omega, rfl, H3, hb3⟩
    case round =>
      clear H3 hb3
      obtain ⟨k, hkg, rfl, hS, hb⟩ := hrel
      by_cases hk : k < len
      · have c2 := HC.out wr k hk hS.below
        obtain ⟨z, HZ⟩ : ∃ z, Hid (nth t k = z) := ⟨_, rfl⟩
        have Hz : Hid (okI z) := by show okI _; rw [← HZ.out]; exact Ht.out k hk
        rw [HZ.out] at c2
        obtain ⟨x0, x1, x2, x3, x4⟩ := id hb
        have HT : Hid (∀ x, ((S0 x ∨ x ∈ t.take k) ∨ x = z) ↔ (S0 x ∨ x ∈ t.take (k + 1))) := fun x => by
          rw [take_succ_nth (by rw [Hlen.out]; exact hk), List.mem_append, List.mem_singleton, HZ.out, or_assoc]
        by_cases hk0 : k = 0
        · subst hk0
          rw [Nat.add_zero] at c2
          go_wp2_with (go_at_call 57; refine (addI_any b0 (n + 2 + 2 * 0) z (fun x => S0 x ∨ x ∈ t.take 0) wr ?_ Hz.out (by omega)).mono ?_; (exact hS.s0); rintro e w4 ⟨rfl, hs4, hg4⟩)
          have hS4 := ((hS.add0 hs4 hg4).same (T0 := fun x => S0 x ∨ x ∈ t.take (0 + 1)) (T1 := fun x => S1 x ∨ firstP t x) (T2 := fun x => S2 x ∨ lastP t x) (T3 := fun p => S3 p ∨ behP t (0 + 1) p) HT.out (fun x => Iff.rfl) (fun x => Iff.rfl) (fun x => by rw [behP_succ]; simp)).mono (n' := n + 2 + 2 * (0 + 1)) (by omega)
          have hb4 := hb.grown hg4 hxb.out.1
          clear hS hb hs4 hg4 x0 x1 x2 x3 x4 c2
          go_wp2
          go_roundg (gk - 1)
          case measure => omega
          case rel => exact ⟨0 + 1, by omega, by go_num, hS4, hb4⟩
        · have i0 : (0 : Int) < (k : Int) := by omega
          go_upto_region 9 with (go_at_call 57; refine (addI_any b0 (n + 2 + 2 * k) z (fun x => S0 x ∨ x ∈ t.take k) wr ?_ Hz.out (by omega)).mono ?_; (exact hS.s0); rintro e w4 ⟨rfl, hs4, hg4⟩)
          have hS4 := (hS.add0 hs4 hg4).same (T0 := fun x => S0 x ∨ x ∈ t.take (k + 1)) (T1 := fun x => S1 x ∨ firstP t x) (T2 := fun x => S2 x ∨ lastP t x) (T3 := fun p => S3 p ∨ behP t k p) HT.out (fun x => Iff.rfl) (fun x => Iff.rfl) (fun x => Iff.rfl)
          have hb4 := hb.grown hg4 hxb.out.1
          clear hS hb hs4 hg4 x0 x1 x2 x3 x4 c2
          have c2 := HC.out w4 (k - 1) (by omega) hS4.below
          obtain ⟨y, HY⟩ : ∃ y, Hid (nth t (k - 1) = y) := ⟨_, rfl⟩
          have Hy : Hid (okI y) := by show okI _; rw [← HY.out]; exact Ht.out (k - 1) (by omega)
          rw [HY.out] at c2
          have wL : IntKind.i64.wrap ((k : Int) - 1) = ((k - 1 : Nat) : Int) := by rw [show ((k : Int) - 1) = ((k - 1 : Nat) : Int) by omega]; exact Go.IntWalk.i64_in _ ⟨by omega, by omega⟩
          have iL : (0 : Int) ≤ ((k - 1 : Nat) : Int) := by omega
          have jL : ((k - 1 : Nat) : Int) < (len : Int) := by omega
          have kL : k - 1 < len := by omega
          obtain ⟨x0, x1, x2, x3, x4⟩ := id hb4
          have HU : Hid (∀ p, ((S3 p ∨ behP t k p) ∨ p = (y, z)) ↔ (S3 p ∨ behP t (k + 1) p)) := fun p => by
            rw [behP_succ, HY.out, HZ.out, or_assoc]
            exact or_congr_right (or_congr_right ⟨fun e => ⟨by omega, e⟩, fun e => e.2⟩)
          go_region_held3 (fun w' => w'.cell? ⟨xb, 3, none⟩ = some (.map (some b3)) ∧ w'.cell? ⟨tb, tf + (k - 1), none⟩ = some (.int .i64 y))
            (go_keep)
            (first
              | (go_at_call 58; refine (addP_any b3 (n + 2 + 2 * k + 1) (y, z) (fun p => S3 p ∨ behP t k p) _ ?_ ⟨Hy.out, Hz.out⟩ (by omega)).mono ?_; (exact (hS4.to (Below.refl _ _).drew).s3); rintro e w5 ⟨rfl, hs5, hg5⟩; have hS5 := (hS4.to (Below.refl _ _).drew).add3 hs5 hg5; have hb5 := (hb4.below (Below.refl _ _).drew).grown hg5 hxb.out.2.2.2; obtain ⟨v0, v1, v2, v3, v4⟩ := id hb5; have d2 := HC.out w5 (k - 1) (by omega) hS5.below; rw [HY.out] at d2))
          have hS6 := (hS5.same (T0 := fun x => S0 x ∨ x ∈ t.take (k + 1)) (T1 := fun x => S1 x ∨ firstP t x) (T2 := fun x => S2 x ∨ lastP t x) (T3 := fun p => S3 p ∨ behP t (k + 1) p) (fun x => Iff.rfl) (fun x => Iff.rfl) (fun x => Iff.rfl) HU.out).mono (n' := n + 2 + 2 * (k + 1)) (by omega)
          clear hS5 hs5 hg5 hS4 hb4 x0 x1 x2 x3 x4 c2 v0 v1 v2 v3 v4 d2 wL iL jL kL
          go_wp2
          go_roundg (gk - 1)
          case measure => omega
          case rel => exact ⟨k + 1, by omega, by go_num, hS6, hb5⟩
      · obtain rfl : k = len := by omega
        have hS' := (hS.same (T0 := fun x => S0 x ∨ x ∈ t) (T1 := fun x => S1 x ∨ firstP t x) (T2 := fun x => S2 x ∨ lastP t x) (T3 := fun p => S3 p ∨ behP t t.length p) (fun x => by rw [List.take_of_length_le (by rw [Hlen.out]; exact Nat.le_refl _)]) (fun x => Iff.rfl) (fun x => Iff.rfl) (fun x => by rw [Hlen.out])).mono (n' := n + 200) (by omega)
        clear hS hb
        go_wp2
        go_end0
        exact ⟨rfl, hS'⟩

end Go.Proofs.Ytlknegihhcdhbaa

/- What all traces show, plainly. -/
namespace Go.Proofs.Ytlknegihhcdhbaa
set_option linter.unusedVariables false
set_option maxRecDepth 4000

def SomeT {α : Type} (f : List Int → α → Prop) (log : List (List Int)) (k : Nat) (x : α) : Prop := ∃ t, t ∈ log.take k ∧ f t x
theorem someT_zero {α : Type} (f : List Int → α → Prop) (log : List (List Int)) (x : α) : SomeT f log 0 x ↔ False := by
  unfold SomeT; simp
theorem someT_succ {α : Type} {f : List Int → α → Prop} {log : List (List Int)} {k : Nat} (hk : k < log.length) (x : α) : (SomeT f log k x ∨ f (log.getD k []) x) ↔ SomeT f log (k + 1) x := by
  unfold SomeT
  rw [List.take_add_one, List.getElem?_eq_getElem hk, List.getD_eq_getElem?_getD, List.getElem?_eq_getElem hk]
  constructor
  · rintro (⟨t, ht, hf⟩ | hf)
    · exact ⟨t, List.mem_append.2 (.inl ht), hf⟩
    · exact ⟨_, List.mem_append.2 (.inr (by simp)), hf⟩
  · rintro ⟨t, ht, hf⟩
    rcases List.mem_append.1 ht with ht | ht
    · exact .inl ⟨t, ht, hf⟩
    · have : t = log[k] := by simpa using ht
      exact .inr (by rw [this] at hf; exact hf)
theorem someT_all {α : Type} {f : List Int → α → Prop} {g : α → List Int → Bool} (hg : ∀ t x, f t x ↔ g x t = true) (log : List (List Int)) (x : α) : SomeT f log log.length x ↔ log.any (g x) = true := by
  unfold SomeT
  rw [List.take_of_length_le (Nat.le_refl _), List.any_eq_true]
  exact ⟨fun ⟨t, h1, h2⟩ => ⟨t, h1, (hg t x).1 h2⟩, fun ⟨t, h1, h2⟩ => ⟨t, h1, (hg t x).2 h2⟩⟩
theorem in_iff (t : List Int) (x : Int) : x ∈ t ↔ inT x t = true := by unfold inT; simp
theorem first_iff (t : List Int) (x : Int) : firstP t x ↔ firstT x t = true := by
  unfold firstP firstT
  cases t with
  | nil => simp
  | cons y r =>
    show _ ↔ (some y == some x) = true
    rw [beq_iff_eq, Option.some.injEq]
    exact ⟨fun h => h.2.symm, fun h => ⟨List.cons_ne_nil _ _, h.symm⟩⟩
theorem last_iff (t : List Int) (x : Int) : lastP t x ↔ lastT x t = true := by
  unfold lastP lastT
  by_cases h : t = []
  · subst h; simp
  · have hl : t.length - 1 < t.length := by have := List.length_pos_iff.2 h; omega
    rw [List.getLast?_eq_getElem?, List.getElem?_eq_getElem hl, nth_get hl]
    rw [beq_iff_eq, Option.some.injEq]
    exact ⟨fun q => q.2.symm, fun q => ⟨h, q.symm⟩⟩
theorem beh_iff (t : List Int) (p : Int × Int) : behP t t.length p ↔ behindT p t = true := by
  unfold behP behindT
  rw [List.any_eq_true]
  constructor
  · rintro ⟨j, h0, h1, h2, h3⟩
    exact ⟨j, List.mem_range.2 h1, by simp [h0, h2, h3]⟩
  · rintro ⟨j, h1, h2⟩
    simp only [Bool.and_eq_true, decide_eq_true_eq, beq_iff_eq] at h2
    exact ⟨j, h2.1.1, List.mem_range.1 h1, h2.1.2, h2.2⟩
theorem nth_mem {t : List Int} {k : Nat} (h : k < t.length) : nth t k ∈ t := by rw [nth_get h]; exact List.getElem_mem h
theorem firstP_mem {t : List Int} {x : Int} (h : firstP t x) : x ∈ t := by obtain ⟨h, rfl⟩ := h; exact nth_mem (List.length_pos_iff.2 h)
theorem lastP_mem {t : List Int} {x : Int} (h : lastP t x) : x ∈ t := by obtain ⟨h, rfl⟩ := h; exact nth_mem (by have := List.length_pos_iff.2 h; omega)
theorem behP_mem {t : List Int} {p : Int × Int} (h : behP t t.length p) : p.1 ∈ t ∧ p.2 ∈ t := by
  obtain ⟨j, h0, h1, h2, h3⟩ := h
  rw [← h2, ← h3]
  exact ⟨nth_mem (by omega), nth_mem h1⟩
theorem someT_label {f : List Int → Int → Prop} {g : Int → List Int → Bool} {log : List (List Int)} (hL : ∀ t ∈ log, ∀ x ∈ t, 1 ≤ x ∧ x ≤ 26) (hg : ∀ t x, f t x ↔ g x t = true) (hm : ∀ t x, f t x → x ∈ t) (x : Int) :
    SomeT f log log.length x ↔ (1 ≤ x ∧ x ≤ 26) ∧ log.any (g x) = true := by
  rw [← someT_all hg]
  refine ⟨fun h => ⟨?_, h⟩, fun h => h.2⟩
  obtain ⟨t, h1, h2⟩ := h
  exact hL t (List.mem_of_mem_take h1) x (hm t x h2)
theorem someT_pair {log : List (List Int)} (hL : ∀ t ∈ log, ∀ x ∈ t, 1 ≤ x ∧ x ≤ 26) (x : Int × Int) :
    SomeT (fun t p => behP t t.length p) log log.length x ↔ ((1 ≤ x.1 ∧ x.1 ≤ 26) ∧ 1 ≤ x.2 ∧ x.2 ≤ 26) ∧ log.any (behindT x) = true := by
  rw [← someT_all (f := fun t p => behP t t.length p) (g := behindT) beh_iff]
  refine ⟨fun h => ⟨?_, h⟩, fun h => h.2⟩
  obtain ⟨t, h1, h2⟩ := h
  have hm := behP_mem h2
  exact ⟨hL t (List.mem_of_mem_take h1) _ hm.1, hL t (List.mem_of_mem_take h1) _ hm.2⟩

end Go.Proofs.Ytlknegihhcdhbaa

/- prints: all that was seen, rising; Of. -/
namespace Go.Proofs.Ytlknegihhcdhbaa
open Go.RowKit
set_option linter.unusedVariables false
set_option linter.unusedSimpArgs false
set_option maxRecDepth 4000

theorem results_prints {fn : Func} {p : Tmp} {tmps : Array Value} {w : World} {b : Nat} {v0 v1 v2 v3 : Value} (h : fn.results = #[.cell p 26]) (hp : tmps.getD p undef = .pointer (some ⟨b, 0, none⟩)) (hB : Box4 w b v0 v1 v2 v3) :
    (results fn tmps).run Try.prog w = .ok (.agg #[v0, v1, v2, v3]) w := by
  obtain ⟨_, h0, h1, h2, h3⟩ := hB
  have e : (results fn tmps).run Try.prog w = ((asAddr (tmps.getD p undef)).run Try.prog w).andThen fun a w₁ => (loadVar 26 a).run Try.prog w₁ := by
    simp only [results, h]
    simp [Sem.run_bind, Result.andThen]
  rw [e, hp]
  simp [asAddr, go_sem, h0, h1, h2, h3]
theorem results_prints1 {fn : Func} {p u : Tmp} {tmps : Array Value} {w : World} {b : Nat} {v0 v1 v2 v3 x : Value} (h : fn.results = #[.cell p 26, .tmp u]) (hp : tmps.getD p undef = .pointer (some ⟨b, 0, none⟩)) (hu : tmps.getD u undef = x) (hB : Box4 w b v0 v1 v2 v3) :
    (results fn tmps).run Try.prog w = .ok (.tuple #[.agg #[v0, v1, v2, v3], x]) w := by
  obtain ⟨_, h0, h1, h2, h3⟩ := hB
  rw [results_cell_tmp h, hp, hu]
  simp [asAddr, go_sem, h0, h1, h2, h3]

/-- A slice of pairs of numbers. -/
def prAt (l : List (Int × Int)) (k : Nat) : Int × Int := l.getD k (0, 0)
def PairsV (w : World) (v : Value) (l : List (Int × Int)) : Prop := l.length ≤ 8796093022208 ∧ CellsV w v 2 8796093022208 l.length (cellsP l)
/-- What logs show, in memory. -/
def PrintsV (w : World) (v : Value) (p : PrintsL) : Prop := ∃ v0 v1 v2 v3, v = .agg #[v0, v1, v2, v3] ∧ Ints w v0 p.labels ∧ Ints w v1 p.first ∧ Ints w v2 p.last ∧ PairsV w v3 p.behind
theorem PairsV.below {w w' : World} {v : Value} {l : List (Int × Int)} (h : PairsV w v l) (hb : Below w.heap.size w w') : PairsV w' v l := ⟨h.1, h.2.below hb⟩
theorem PrintsV.below {w w' : World} {v : Value} {p : PrintsL} (h : PrintsV w v p) (hb : Below w.heap.size w w') : PrintsV w' v p := by
  obtain ⟨v0, v1, v2, v3, e, h0, h1, h2, h3⟩ := h
  exact ⟨v0, v1, v2, v3, e, h0.below hb, h1.below hb, h2.below hb, h3.below hb⟩

theorem pairs_slice1 {w : World} {v : Value} {xs : List (Int × Int)} (h : PairsV w v xs) : ∃ a c, v = .slice a xs.length c := by
  obtain ⟨a, cap, e, _⟩ := h.2.slice
  exact ⟨a, cap, e⟩
/-- Four sets, told by what is in them. -/
theorem risingI_log {b n : Nat} {S : Int → Prop} {p : Int → Bool} (hp : ∀ x, S x ↔ (1 ≤ x ∧ x ≤ 26) ∧ p x = true) (w : World) (h : SetI w b n S) (hn : n ≤ 17592186044416) :
    Calls Try.prog 59 #[.map (some b), .func (.func 60) #[] #[]] w fun e w' => ∃ v, e = .returned v ∧ Ints w' v (labels26.filter p) ∧ Below w.heap.size w w' := by
  refine (risingI_any b n S w h hn).mono ?_
  rintro e w' ⟨v, zs, rfl, hO, h1, h2, h3⟩
  have hz : zs = labels26.filter p := rises_labels h1 fun x => by
    constructor
    · intro hx; exact (hp x).1 ((h3 x (h2 x hx)).1 hx)
    · intro hx; exact (h3 x (okI_of (by omega))).2 ((hp x).2 hx)
  have hle : (labels26.filter p).length ≤ 26 := Nat.le_trans (List.length_filter_le _ _) (by decide)
  rw [hz] at hO
  exact ⟨v, rfl, hO.ints (by omega), hO.2.1⟩
theorem risingP_log {b n : Nat} {S : Int × Int → Prop} {p : Int × Int → Bool} (hp : ∀ x, S x ↔ ((1 ≤ x.1 ∧ x.1 ≤ 26) ∧ 1 ≤ x.2 ∧ x.2 ≤ 26) ∧ p x = true) (w : World) (h : SetP w b n S) (hn : n ≤ 8796093022208) :
    Calls Try.prog 61 #[.map (some b), .func (.func 62) #[] #[]] w fun e w' => ∃ v, e = .returned v ∧ PairsV w' v (pairs26.filter p) ∧ Below w.heap.size w w' := by
  refine (risingP_any b n S w h hn).mono ?_
  rintro e w' ⟨v, zs, rfl, hO, hl, h1, h2, h3⟩
  have hz : zs = pairs26.filter p := rises_pairs h1 fun x => by
    constructor
    · intro hx; exact (hp x).1 ((h3 x (h2 x hx)).1 hx)
    · intro hx; exact (h3 x ⟨okI_of (by omega), okI_of (by omega)⟩).2 ((hp x).2 hx)
  rw [hz] at hO hl
  refine ⟨v, rfl, ⟨by omega, hO.cells (by omega) fun u hu => ?_⟩, hO.2.1⟩
  obtain ⟨x, _, hx⟩ := List.mem_flatMap.1 hu
  exact encP_one x u hx

end Go.Proofs.Ytlknegihhcdhbaa

/- prints: the walk. -/
namespace Go.Proofs.Ytlknegihhcdhbaa
open Go.RowKit
set_option linter.unusedVariables false
set_option linter.unusedSimpArgs false
set_option maxRecDepth 4000

/-- Rows newer than the block R. -/
def RowI (R : Nat) (w : World) (v : Value) (L : List Int) : Prop := w.ownsRow (R + 1) 3 1 v L.length (L.map (Value.int .i64))
def RowQ (R : Nat) (w : World) (v : Value) (L : List (Int × Int)) : Prop := w.ownsRow (R + 1) 38 2 v L.length (cellsP L)
theorem RowI.below {R : Nat} {w w' : World} {v : Value} {L : List Int} (h : RowI R w v L) (hb : Below w.heap.size w w') : RowI R w' v L := ((ownsRow_on h).below hb).now
theorem RowI.set {R : Nat} {w : World} {v : Value} {L : List Int} (h : RowI R w v L) (j : Nat) (u : Value) : RowI R (w.setCell ⟨R, j, none⟩ u) v L := ((ownsRow_on h).set (a := ⟨R, j, none⟩) (fun e => by have := e.2; simp only at this; omega) u).now
theorem RowQ.below {R : Nat} {w w' : World} {v : Value} {L : List (Int × Int)} (h : RowQ R w v L) (hb : Below w.heap.size w w') : RowQ R w' v L := ((ownsRow_on h).below hb).now
theorem RowQ.set {R : Nat} {w : World} {v : Value} {L : List (Int × Int)} (h : RowQ R w v L) (j : Nat) (u : Value) : RowQ R (w.setCell ⟨R, j, none⟩ u) v L := ((ownsRow_on h).set (a := ⟨R, j, none⟩) (fun e => by have := e.2; simp only at this; omega) u).now
theorem RowI.ints {R : Nat} {w : World} {v : Value} {L : List Int} (h : RowI R w v L) (hl : L.length ≤ 26) (hR : R < w.heap.size) : Ints w v L := Own.ints (B := R + 1) (w := w) ⟨h, Below.refl _ _, hR⟩ (by omega)
theorem RowI.slice {R : Nat} {w : World} {v : Value} {L : List Int} (h : RowI R w v L) : ∃ a c, v = .slice a L.length c := by
  rcases h.2 with ⟨rfl, h0⟩ | ⟨g, cap', cur, rfl, _⟩
  · exact ⟨_, _, by rw [h0]⟩
  · exact ⟨_, _, rfl⟩
theorem RowQ.slice {R : Nat} {w : World} {v : Value} {L : List (Int × Int)} (h : RowQ R w v L) : ∃ a c, v = .slice a L.length c := by
  rcases h.2 with ⟨rfl, h0⟩ | ⟨g, cap', cur, rfl, _⟩
  · exact ⟨_, _, by rw [h0]⟩
  · exact ⟨_, _, rfl⟩
theorem RowQ.pairs {R : Nat} {w : World} {v : Value} {L : List (Int × Int)} (h : RowQ R w v L) (hl : L.length ≤ 676) : PairsV w v L := by
  refine ⟨by omega, ownsRow_cells h (by omega) fun u hu => ?_⟩
  obtain ⟨x, _, hx⟩ := List.mem_flatMap.1 hu
  exact encP_one x u hx
theorem row_down {B B' : Nat} {w : World} {e : TypeId} {size : Nat} {v : Value} {n : Nat} {xs : List Value} (h : w.ownsRow B e size v n xs) (hB : B' ≤ B) : w.ownsRow B' e size v n xs := by
  obtain ⟨h1, h2 | ⟨g, cap, cur, r1, r2, r3⟩⟩ := h
  · exact ⟨h1, .inl h2⟩
  · exact ⟨h1, .inr ⟨g, cap, cur, r1, Nat.le_trans hB r2, r3⟩⟩
theorem rowI_of {b n R : Nat} {S : Int → Prop} {p : Int → Bool} (hp : ∀ x, S x ↔ (1 ≤ x ∧ x ≤ 26) ∧ p x = true) (w : World) (h : SetI w b n S) (hn : n ≤ 17592186044416) (hR : R < w.heap.size) :
    Calls Try.prog 59 #[.map (some b), .func (.func 60) #[] #[]] w fun e w' => ∃ v, e = .returned v ∧ RowI R w' v (labels26.filter p) ∧ Below w.heap.size w w' := by
  refine (risingI_any b n S w h hn).mono ?_
  rintro e w' ⟨v, zs, rfl, hO, h1, h2, h3⟩
  have hz : zs = labels26.filter p := rises_labels h1 fun x => by
    constructor
    · intro hx; exact (hp x).1 ((h3 x (h2 x hx)).1 hx)
    · intro hx; exact (h3 x (okI_of (by omega))).2 ((hp x).2 hx)
  rw [hz] at hO
  exact ⟨v, rfl, row_down hO.1 hR, hO.2.1⟩
theorem rowQ_of {b n R : Nat} {S : Int × Int → Prop} {p : Int × Int → Bool} (hp : ∀ x, S x ↔ ((1 ≤ x.1 ∧ x.1 ≤ 26) ∧ 1 ≤ x.2 ∧ x.2 ≤ 26) ∧ p x = true) (w : World) (h : SetP w b n S) (hn : n ≤ 8796093022208) (hR : R < w.heap.size) :
    Calls Try.prog 61 #[.map (some b), .func (.func 62) #[] #[]] w fun e w' => ∃ v, e = .returned v ∧ RowQ R w' v (pairs26.filter p) ∧ Below w.heap.size w w' := by
  refine (risingP_any b n S w h hn).mono ?_
  rintro e w' ⟨v, zs, rfl, hO, hl, h1, h2, h3⟩
  have hz : zs = pairs26.filter p := rises_pairs h1 fun x => by
    constructor
    · intro hx; exact (hp x).1 ((h3 x (h2 x hx)).1 hx)
    · intro hx; exact (h3 x ⟨okI_of (by omega), okI_of (by omega)⟩).2 ((hp x).2 hx)
  rw [hz] at hO
  exact ⟨v, rfl, row_down hO.1 hR, hO.2.1⟩

/-- The result's cells, nothing laid into them yet. -/
def Res4 (w : World) (R : Nat) : Prop := Box4 w R (.slice none 0 0) (.slice none 0 0) (.slice none 0 0) (.slice none 0 0) ∧ ∀ j, w.frozen? ⟨R, j, none⟩ = false
theorem Res4.below {w w' : World} {R : Nat} (h : Res4 w R) (hb : Below w.heap.size w w') : Res4 w' R := ⟨h.1.below hb, fun j => by rw [hb.frozen (p := ⟨R, j, none⟩) h.1.1]; exact h.2 j⟩
theorem res4_new (w : World) : Res4 (w.alloc (.cells #[.slice none 0 0, .slice none 0 0, .slice none 0 0, .slice none 0 0] 26)) w.heap.size :=
  ⟨box4_new w _ _ _ _ _, fun j => World.frozen?_alloc_at _ _ _ _ rfl⟩

/-- Four values are laid into the box R. -/
theorem box4_store {w : World} {R : Nat} {z0 z1 z2 z3 : Value} (h : Box4 w R z0 z1 z2 z3) (v0 v1 v2 v3 : Value) : Box4 ((((w.setCell ⟨R, 0, none⟩ v0).setCell ⟨R, 1, none⟩ v1).setCell ⟨R, 2, none⟩ v2).setCell ⟨R, 3, none⟩ v3) R v0 v1 v2 v3 := by
  obtain ⟨h, h0, h1, h2, h3⟩ := h
  refine ⟨by simpa using h, ?_, ?_, ?_, ?_⟩
  · rw [World.cell?_setCell_other _ _ _ _ (by simp), World.cell?_setCell_other _ _ _ _ (by simp), World.cell?_setCell_other _ _ _ _ (by simp)]
    exact World.cell?_setCell_same _ _ _ h0
  · rw [World.cell?_setCell_other _ _ _ _ (by simp), World.cell?_setCell_other _ _ _ _ (by simp)]
    exact World.cell?_setCell_same _ _ _ ((World.cell?_setCell_other _ _ _ _ (by simp)).trans h1)
  · rw [World.cell?_setCell_other _ _ _ _ (by simp)]
    exact World.cell?_setCell_same _ _ _ ((World.cell?_setCell_other _ _ _ _ (by simp)).trans ((World.cell?_setCell_other _ _ _ _ (by simp)).trans h2))
  · exact World.cell?_setCell_same _ _ _ ((World.cell?_setCell_other _ _ _ _ (by simp)).trans ((World.cell?_setCell_other _ _ _ _ (by simp)).trans ((World.cell?_setCell_other _ _ _ _ (by simp)).trans h3)))

set_option maxHeartbeats 4000000 in
theorem prints_any (b0 b1 b2 b3 n : Nat) (S0 S1 S2 : Int → Prop) (S3 : Int × Int → Prop) (p0 p1 p2 : Int → Bool) (p3 : Int × Int → Bool) (w : World) (s0 : SetI w b0 n S0) (s1 : SetI w b1 n S1) (s2 : SetI w b2 n S2) (s3 : SetP w b3 n S3)
    (e0 : ∀ x, S0 x ↔ (1 ≤ x ∧ x ≤ 26) ∧ p0 x = true) (e1 : ∀ x, S1 x ↔ (1 ≤ x ∧ x ≤ 26) ∧ p1 x = true) (e2 : ∀ x, S2 x ↔ (1 ≤ x ∧ x ≤ 26) ∧ p2 x = true) (e3 : ∀ x, S3 x ↔ ((1 ≤ x.1 ∧ x.1 ≤ 26) ∧ 1 ≤ x.2 ∧ x.2 ≤ 26) ∧ p3 x = true) (hn : n ≤ 1000000) :
    Calls Try.prog 31 #[.agg #[.map (some b0), .map (some b1), .map (some b2), .map (some b3)]] w fun e w' => ∃ v, e = .returned v ∧ PrintsV w' v ⟨labels26.filter p0, labels26.filter p1, labels26.filter p2, pairs26.filter p3⟩ ∧ Below w.heap.size w w' := by
  have hbx := box4_new w (.map (some b0)) (.map (some b1)) (.map (some b2)) (.map (some b3)) 58
  have bb1 := below_new w (.cells #[.map (some b0), .map (some b1), .map (some b2), .map (some b3)] 58)
  have hz1 : (w.alloc (.cells #[.map (some b0), .map (some b1), .map (some b2), .map (some b3)] 58)).heap.size = w.heap.size + 1 := by simp
  obtain ⟨w1, H1⟩ : ∃ u, Hid (w.alloc (.cells #[.map (some b0), .map (some b1), .map (some b2), .map (some b3)] 58) = u) := ⟨_, rfl⟩
  rw [H1.out] at hbx bb1 hz1
  have hRx := res4_new w1
  have bb2 := below_new w1 (.cells #[.slice none 0 0, .slice none 0 0, .slice none 0 0, .slice none 0 0] 26)
  have hz2 : (w1.alloc (.cells #[.slice none 0 0, .slice none 0 0, .slice none 0 0, .slice none 0 0] 26)).heap.size = w.heap.size + 1 + 1 := by simp [hz1]
  obtain ⟨w2, H2⟩ : ∃ u, Hid (w1.alloc (.cells #[.slice none 0 0, .slice none 0 0, .slice none 0 0, .slice none 0 0] 26) = u) := ⟨_, rfl⟩
  rw [H2.out] at hRx bb2 hz2
  rw [hz1] at hRx
  have hb2 := hbx.below bb2
  have bw := bb1.trans (bb2.mono (by omega))
  obtain ⟨xb, HX⟩ : ∃ x, Hid (w.heap.size = x) := ⟨_, rfl⟩
  have t0 := (s0.below bb1).below bb2
  have t1 := (s1.below bb1).below bb2
  have t2 := (s2.below bb1).below bb2
  have t3 := (s3.below bb1).below bb2
  have R0 := fun w h hR => rowI_of (R := xb + 1) (b := b0) (n := n) e0 w h (by omega) hR
  have R1 := fun w h hR => rowI_of (R := xb + 1) (b := b1) (n := n) e1 w h (by omega) hR
  have R2 := fun w h hR => rowI_of (R := xb + 1) (b := b2) (n := n) e2 w h (by omega) hR
  have R3 := fun w h hR => rowQ_of (R := xb + 1) (b := b3) (n := n) e3 w h (by omega) hR
  have k0 : (labels26.filter p0).length ≤ 26 := Nat.le_trans (List.length_filter_le _ _) (by decide)
  have k1 : (labels26.filter p1).length ≤ 26 := Nat.le_trans (List.length_filter_le _ _) (by decide)
  have k2 : (labels26.filter p2).length ≤ 26 := Nat.le_trans (List.length_filter_le _ _) (by decide)
  have k3 : (pairs26.filter p3).length ≤ 676 := Nat.le_trans (List.length_filter_le _ _) (by decide +kernel)
  generalize labels26.filter p0 = L0 at R0 k0 ⊢
  generalize labels26.filter p1 = L1 at R1 k1 ⊢
  generalize labels26.filter p2 = L2 at R2 k2 ⊢
  generalize pairs26.filter p3 = L3 at R3 k3 ⊢
  clear e0 e1 e2 e3 s0 s1 s2 s3 bb1 bb2 hbx
  go_enter Try.func31, Try.ntmps31
  go_upto_region 1 with fail
  rw [H1.out, H2.out]
  rw [HX.out] at hRx hb2 hz2 bw hz1 ⊢
  have bdr := (Below.refl w2.heap.size w2).drew
  replace t0 := t0.below bdr
  replace t1 := t1.below bdr
  replace t2 := t2.below bdr
  replace t3 := t3.below bdr
  have hb3 := hb2.below bdr
  have hR3 := hRx.below bdr
  have bw3 := bw.trans (bdr.mono (by omega))
  have hsz3 : xb + 1 < w2.drew.heap.size := by show _ < w2.heap.size; omega
  obtain ⟨_, c0, c1, c2, c3⟩ := id hb2
  have hne : ¬ xb = xb + 1 := by omega
  clear H1 H2 hz1 hz2 bdr bw hRx
  go_region_held3 (fun w' => w'.cell? ⟨xb, 0, none⟩ = some (.map (some b0)) ∧ w'.cell? ⟨xb, 1, none⟩ = some (.map (some b1)) ∧ w'.cell? ⟨xb, 2, none⟩ = some (.map (some b2)) ∧ w'.cell? ⟨xb, 3, none⟩ = some (.map (some b3)))
    (go_keep)
    (first
      | (go_at_call 59; (with_reducible refine (R0 _ ?_ ?_).mono ?_); (assumption); (assumption); rintro e wa ⟨v0, rfl, r0, ba⟩; obtain ⟨av0, cv0, rfl⟩ := r0.slice; have t0 : SetI wa b0 n S0 := SetA.below (by assumption) ba; have t1 : SetI wa b1 n S1 := SetA.below (by assumption) ba; have t2 : SetI wa b2 n S2 := SetA.below (by assumption) ba; have t3 : SetP wa b3 n S3 := SetA.below (by assumption) ba; have hb : Box4 wa xb (.map (some b0)) (.map (some b1)) (.map (some b2)) (.map (some b3)) := Box4.below (by assumption) ba; have hRx : Res4 wa (xb + 1) := Res4.below (by assumption) ba; obtain ⟨dx, d0, d1, d2, d3⟩ := id hb; have bw : Below xb w wa := (by refine Below.trans ?_ (Below.mono ba ?_); assumption; omega); have hsz : xb + 1 < wa.heap.size := Nat.lt_of_lt_of_le (show xb + 1 < _ from by assumption) (Below.size ba))
      | (go_at_call 59; (with_reducible refine (R1 _ ?_ ?_).mono ?_); (assumption); (assumption); rintro e wb ⟨v1, rfl, r1, bb⟩; obtain ⟨av1, cv1, rfl⟩ := r1.slice; have t0 : SetI wb b0 n S0 := SetA.below (by assumption) bb; have t1 : SetI wb b1 n S1 := SetA.below (by assumption) bb; have t2 : SetI wb b2 n S2 := SetA.below (by assumption) bb; have t3 : SetP wb b3 n S3 := SetA.below (by assumption) bb; have hb : Box4 wb xb (.map (some b0)) (.map (some b1)) (.map (some b2)) (.map (some b3)) := Box4.below (by assumption) bb; have hRx : Res4 wb (xb + 1) := Res4.below (by assumption) bb; obtain ⟨dx, d0, d1, d2, d3⟩ := id hb; have bw : Below xb w wb := (by refine Below.trans ?_ (Below.mono bb ?_); assumption; omega); have hsz : xb + 1 < wb.heap.size := Nat.lt_of_lt_of_le (show xb + 1 < _ from by assumption) (Below.size bb); have r0 : RowI (xb + 1) wb _ L0 := RowI.below (by assumption) bb)
      | (go_at_call 59; (with_reducible refine (R2 _ ?_ ?_).mono ?_); (assumption); (assumption); rintro e wc ⟨v2, rfl, r2, bc⟩; obtain ⟨av2, cv2, rfl⟩ := r2.slice; have t0 : SetI wc b0 n S0 := SetA.below (by assumption) bc; have t1 : SetI wc b1 n S1 := SetA.below (by assumption) bc; have t2 : SetI wc b2 n S2 := SetA.below (by assumption) bc; have t3 : SetP wc b3 n S3 := SetA.below (by assumption) bc; have hb : Box4 wc xb (.map (some b0)) (.map (some b1)) (.map (some b2)) (.map (some b3)) := Box4.below (by assumption) bc; have hRx : Res4 wc (xb + 1) := Res4.below (by assumption) bc; obtain ⟨dx, d0, d1, d2, d3⟩ := id hb; have bw : Below xb w wc := (by refine Below.trans ?_ (Below.mono bc ?_); assumption; omega); have hsz : xb + 1 < wc.heap.size := Nat.lt_of_lt_of_le (show xb + 1 < _ from by assumption) (Below.size bc); have r0 : RowI (xb + 1) wc _ L0 := RowI.below (by assumption) bc; have r1 : RowI (xb + 1) wc _ L1 := RowI.below (by assumption) bc)
      | (go_at_call 61; (with_reducible refine (R3 _ ?_ ?_).mono ?_); (assumption); (assumption); rintro e wd ⟨v3, rfl, r3, bd⟩; obtain ⟨av3, cv3, rfl⟩ := r3.slice; have t0 : SetI wd b0 n S0 := SetA.below (by assumption) bd; have t1 : SetI wd b1 n S1 := SetA.below (by assumption) bd; have t2 : SetI wd b2 n S2 := SetA.below (by assumption) bd; have t3 : SetP wd b3 n S3 := SetA.below (by assumption) bd; have hb : Box4 wd xb (.map (some b0)) (.map (some b1)) (.map (some b2)) (.map (some b3)) := Box4.below (by assumption) bd; have hRx : Res4 wd (xb + 1) := Res4.below (by assumption) bd; obtain ⟨dx, d0, d1, d2, d3⟩ := id hb; have bw : Below xb w wd := (by refine Below.trans ?_ (Below.mono bd ?_); assumption; omega); have hsz : xb + 1 < wd.heap.size := Nat.lt_of_lt_of_le (show xb + 1 < _ from by assumption) (Below.size bd); have r0 : RowI (xb + 1) wd _ L0 := RowI.below (by assumption) bd; have r1 : RowI (xb + 1) wd _ L1 := RowI.below (by assumption) bd; have r2 : RowI (xb + 1) wd _ L2 := RowI.below (by assumption) bd; obtain ⟨⟨gx, g0, g1, g2, g3⟩, gf⟩ := id hRx; have f0 := gf 0; have f1 := gf 1; have f2 := gf 2; have f3 := gf 3))
  have q0 : RowI (xb + 1) wd (.slice av0 L0.length cv0) L0 := by assumption
  have q1 : RowI (xb + 1) wd (.slice av1 L1.length cv1) L1 := by assumption
  have q2 : RowI (xb + 1) wd (.slice av2 L2.length cv2) L2 := by assumption
  have q3 : RowQ (xb + 1) wd (.slice av3 L3.length cv3) L3 := by assumption
  have hB := box4_store hRx.1 (.slice av0 L0.length cv0) (.slice av1 L1.length cv1) (.slice av2 L2.length cv2) (.slice av3 L3.length cv3)
  have q0' := (((q0.set 0 (.slice av0 L0.length cv0)).set 1 (.slice av1 L1.length cv1)).set 2 (.slice av2 L2.length cv2)).set 3 (.slice av3 L3.length cv3)
  have q1' := (((q1.set 0 (.slice av0 L0.length cv0)).set 1 (.slice av1 L1.length cv1)).set 2 (.slice av2 L2.length cv2)).set 3 (.slice av3 L3.length cv3)
  have q2' := (((q2.set 0 (.slice av0 L0.length cv0)).set 1 (.slice av1 L1.length cv1)).set 2 (.slice av2 L2.length cv2)).set 3 (.slice av3 L3.length cv3)
  have q3' := (((q3.set 0 (.slice av0 L0.length cv0)).set 1 (.slice av1 L1.length cv1)).set 2 (.slice av2 L2.length cv2)).set 3 (.slice av3 L3.length cv3)
  have bw' := (((bw.setCell (p := ⟨xb + 1, 0, none⟩) (Nat.le_succ xb) (.slice av0 L0.length cv0)).setCell (p := ⟨xb + 1, 1, none⟩) (Nat.le_succ xb) (.slice av1 L1.length cv1)).setCell (p := ⟨xb + 1, 2, none⟩) (Nat.le_succ xb) (.slice av2 L2.length cv2)).setCell (p := ⟨xb + 1, 3, none⟩) (Nat.le_succ xb) (.slice av3 L3.length cv3)
  obtain ⟨W, HW⟩ : ∃ W, Hid ((((wd.setCell ⟨xb + 1, 0, none⟩ (.slice av0 L0.length cv0)).setCell ⟨xb + 1, 1, none⟩ (.slice av1 L1.length cv1)).setCell ⟨xb + 1, 2, none⟩ (.slice av2 L2.length cv2)).setCell ⟨xb + 1, 3, none⟩ (.slice av3 L3.length cv3) = W) := ⟨_, rfl⟩
  rw [HW.out] at hB q0' q1' q2' q3' bw' ⊢
  go_wp2
  exact bodyPost_ret (v := .agg #[.slice av0 L0.length cv0, .slice av1 L1.length cv1, .slice av2 L2.length cv2, .slice av3 L3.length cv3]) (results_prints rfl rfl hB) rfl ⟨_, rfl, ⟨_, _, _, _, rfl, q0'.ints k0 hB.1, q1'.ints k1 hB.1, q2'.ints k2 hB.1, q3'.pairs k3⟩, (by rw [HX.out]; exact bw')⟩

end Go.Proofs.Ytlknegihhcdhbaa

/- Of: what a log shows. -/
namespace Go.Proofs.Ytlknegihhcdhbaa
open Go.RowKit
set_option linter.unusedVariables false
set_option linter.unusedSimpArgs false
set_option maxRecDepth 4000

theorem pairsV_nil (w : World) : PairsV w (.slice none 0 0) [] := ⟨by simp, CellsV.nil w 2 _⟩
theorem printsV_none (w : World) : PrintsV w (.agg #[.slice none 0 0, .slice none 0 0, .slice none 0 0, .slice none 0 0]) noPrints := ⟨_, _, _, _, rfl, Ints.nil _, Ints.nil _, Ints.nil _, pairsV_nil _⟩

theorem Box4.blk {w w' : World} {x : Nat} {v0 v1 v2 v3 : Value} (h : Box4 w x v0 v1 v2 v3) (hb : w'.heap[x]? = w.heap[x]?) (hl : x < w'.heap.size) : Box4 w' x v0 v1 v2 v3 :=
  ⟨hl, (World.cell?_of_block (a := ⟨x, 0, none⟩) hb).trans h.2.1, (World.cell?_of_block (a := ⟨x, 1, none⟩) hb).trans h.2.2.1, (World.cell?_of_block (a := ⟨x, 2, none⟩) hb).trans h.2.2.2.1, (World.cell?_of_block (a := ⟨x, 3, none⟩) hb).trans h.2.2.2.2⟩
theorem ints_putS {w : World} {v : Value} {xs : List Int} {p : Addr} {a : Option Addr} {l c : Nat} (h : Ints w v xs) (hp : w.cell? p = some (.slice a l c)) (u : Value) : Ints (w.setCell p u) v xs := by
  obtain ⟨a', len, cap, e, hl, hm, hs, hr⟩ := h
  refine ⟨a', len, cap, e, hl, hm, hs, fun j hj => ?_⟩
  obtain ⟨b, off, ha, hb, hc⟩ := hr j hj
  refine ⟨b, off, ha, by simpa [World.setCell] using hb, ?_⟩
  rw [World.cell?_setCell_other _ _ _ _ (by intro e; rw [← e, hp] at hc; cases hc)]
  exact hc
theorem pairs_putS {w : World} {v : Value} {xs : List (Int × Int)} {p : Addr} {a : Option Addr} {l c : Nat} (h : PairsV w v xs) (hp : w.cell? p = some (.slice a l c)) (u : Value) : PairsV (w.setCell p u) v xs := by
  obtain ⟨h0, a', cap, e, hl, hm, hs, h1, hr⟩ := h
  refine ⟨h0, a', cap, e, hl, hm, hs, h1, fun j y hj => ?_⟩
  obtain ⟨b, off, ha, hb, hc⟩ := hr j y hj
  refine ⟨b, off, ha, by simpa [World.setCell] using hb, ?_⟩
  have hy : ∃ n, y = .int .i64 n := by
    obtain ⟨x, _, hx⟩ := List.mem_flatMap.1 (List.mem_of_getElem? hj)
    simp only [encP, List.mem_cons, List.not_mem_nil, or_false] at hx
    rcases hx with rfl | rfl
    · exact ⟨_, rfl⟩
    · exact ⟨_, rfl⟩
  obtain ⟨n, rfl⟩ := hy
  rw [World.cell?_setCell_other _ _ _ _ (by intro e; rw [← e, hp] at hc; cases hc)]
  exact hc
theorem store4 {Q : World → Prop} (hQ : ∀ (w : World) p a l c u, Q w → w.cell? p = some (.slice a l c) → Q (w.setCell p u)) {w : World} {R : Nat} (hB : Box4 w R (.slice none 0 0) (.slice none 0 0) (.slice none 0 0) (.slice none 0 0)) (h : Q w) (v0 v1 v2 v3 : Value) :
    Q ((((w.setCell ⟨R, 0, none⟩ v0).setCell ⟨R, 1, none⟩ v1).setCell ⟨R, 2, none⟩ v2).setCell ⟨R, 3, none⟩ v3) := by
  obtain ⟨_, h0, h1, h2, h3⟩ := hB
  exact hQ _ _ _ _ _ _ (hQ _ _ _ _ _ _ (hQ _ _ _ _ _ _ (hQ _ _ _ _ _ _ h h0) ((World.cell?_setCell_other _ _ _ _ (by simp)).trans h1)) ((World.cell?_setCell_other _ _ _ _ (by simp)).trans ((World.cell?_setCell_other _ _ _ _ (by simp)).trans h2)))
    ((World.cell?_setCell_other _ _ _ _ (by simp)).trans ((World.cell?_setCell_other _ _ _ _ (by simp)).trans ((World.cell?_setCell_other _ _ _ _ (by simp)).trans h3)))
theorem ints_slice {w : World} {v : Value} {xs : List Int} (h : Ints w v xs) : ∃ a c, v = .slice a xs.length c := by
  obtain ⟨a, len, cap, e, hl, _⟩ := h
  exact ⟨a, cap, by rw [e, hl]⟩
theorem pairs_slice {w : World} {v : Value} {xs : List (Int × Int)} (h : PairsV w v xs) : ∃ a c, v = .slice a xs.length c := by
  obtain ⟨a, cap, e, _⟩ := h.2.slice
  exact ⟨a, cap, e⟩
/-- The four sets, as they are made. -/
def madeQ (w0 : World) (R : Nat) : World := ((((w0.alloc (.map #[] 0)).alloc (.map #[] 0)).alloc (.map #[] 0)).alloc (.map #[] 0)).alloc (.cells #[.map (some (R + 1)), .map (some (R + 1 + 1)), .map (some (R + 1 + 1 + 1)), .map (some (R + 1 + 1 + 1 + 1))] 58)
theorem four_maps (w0 : World) (R : Nat) (hz : w0.heap.size = R + 1) :
    SeenAt w0 (madeQ w0 R) (madeQ w0 R) (R + 1) (R + 1 + 1) (R + 1 + 1 + 1) (R + 1 + 1 + 1 + 1) 0 (fun _ => False) (fun _ => False) (fun _ => False) (fun _ => False) ∧
      Box4 (madeQ w0 R) (R + 1 + 1 + 1 + 1 + 1) (.map (some (R + 1))) (.map (some (R + 1 + 1))) (.map (some (R + 1 + 1 + 1))) (.map (some (R + 1 + 1 + 1 + 1))) := by
  unfold madeQ
  have h1 : SetI (w0.alloc (.map #[] 0)) w0.heap.size 0 (fun _ => False) := setA_made w0
  have b1 := below_new w0 (.map #[] 0)
  have z1 : (w0.alloc (.map #[] 0)).heap.size = R + 1 + 1 := by simp [hz]
  generalize w0.alloc (.map #[] 0) = w1 at h1 b1 z1 ⊢
  have h2 : SetI (w1.alloc (.map #[] 0)) w1.heap.size 0 (fun _ => False) := setA_made w1
  have b2 := below_new w1 (.map #[] 0)
  have z2 : (w1.alloc (.map #[] 0)).heap.size = R + 1 + 1 + 1 := by simp [z1]
  generalize w1.alloc (.map #[] 0) = w2 at h2 b2 z2 ⊢
  have h3 : SetI (w2.alloc (.map #[] 0)) w2.heap.size 0 (fun _ => False) := setA_made w2
  have b3 := below_new w2 (.map #[] 0)
  have z3 : (w2.alloc (.map #[] 0)).heap.size = R + 1 + 1 + 1 + 1 := by simp [z2]
  generalize w2.alloc (.map #[] 0) = w3 at h3 b3 z3 ⊢
  have h4 : SetP (w3.alloc (.map #[] 0)) w3.heap.size 0 (fun _ => False) := setA_made w3
  have b4 := below_new w3 (.map #[] 0)
  have z4 : (w3.alloc (.map #[] 0)).heap.size = R + 1 + 1 + 1 + 1 + 1 := by simp [z3]
  generalize w3.alloc (.map #[] 0) = w4 at h4 b4 z4 ⊢
  have hb := box4_new w4 (.map (some (R + 1))) (.map (some (R + 1 + 1))) (.map (some (R + 1 + 1 + 1))) (.map (some (R + 1 + 1 + 1 + 1))) 58
  have b5 := below_new w4 (.cells #[.map (some (R + 1)), .map (some (R + 1 + 1)), .map (some (R + 1 + 1 + 1)), .map (some (R + 1 + 1 + 1 + 1))] 58)
  generalize w4.alloc (.cells #[.map (some (R + 1)), .map (some (R + 1 + 1)), .map (some (R + 1 + 1 + 1)), .map (some (R + 1 + 1 + 1 + 1))] 58) = w5 at hb b5 ⊢
  rw [hz] at h1
  rw [z1] at h2
  rw [z2] at h3
  rw [z3] at h4
  rw [z4] at hb
  exact ⟨⟨(((h1.below b2).below b3).below b4).below b5, ((h2.below b3).below b4).below b5, (h3.below b4).below b5, h4.below b5, by rw [hz]; omega, by omega,
    (((b1.trans (b2.mono (by omega))).trans (b3.mono (by omega))).trans (b4.mono (by omega))).trans (b5.mono (by omega)), Nat.le_refl _, fun _ _ _ _ _ _ => rfl⟩, hb⟩

set_option maxHeartbeats 4000000 in
theorem of_any (v : Value) (log : List (List Int)) (w : World) (hv : Lists w v log) :
    Calls Try.prog 7 #[v] w fun e w' => ∃ r, e = .returned (.tuple #[r, .int .i64 (ofL log).2]) ∧ PrintsV w' r (ofL log).1 ∧ Below w.heap.size w w' := by
  have hR := res4_new w
  have bw := below_new w (.cells #[.slice none 0 0, .slice none 0 0, .slice none 0 0, .slice none 0 0] 26)
  have hz0 : (w.alloc (.cells #[.slice none 0 0, .slice none 0 0, .slice none 0 0, .slice none 0 0] 26)).heap.size = w.heap.size + 1 := by simp
  obtain ⟨w0, H0⟩ : ∃ u, Hid (w.alloc (.cells #[.slice none 0 0, .slice none 0 0, .slice none 0 0, .slice none 0 0] 26) = u) := ⟨_, rfl⟩
  rw [H0.out] at hR bw hz0
  have hv0 := hv.below bw
  obtain ⟨R, HR⟩ : ∃ x, Hid (w.heap.size = x) := ⟨_, rfl⟩
  rw [HR.out] at hR hz0
  by_cases hw : wrongV log = 0
  · obtain ⟨hl60, hts⟩ := wrongV_ok hw
    have hw1 := wrong_any v log w0 hv0
    have HO : Hid (ofL log = (printsOf log, 0)) := by show _ = _; unfold ofL; rw [if_pos hw]
    rw [HO.out]
    rw [hw] at hw1
    obtain ⟨a, len, cap, rfl, hlen, hmx, hsh, hr⟩ := id hv0
    have Hlen : Hid (log.length = len) := hlen
    rw [Hlen.out] at hl60
    have HL : Hid (∀ t ∈ log, t.length ≤ 60 ∧ ∀ x ∈ t, 1 ≤ x ∧ x ≤ 26) := hts
    clear hlen hsh hr hw hts
    have hmm := @run_makeMap Try.prog
    obtain ⟨hS0, hb0⟩ := four_maps w0 R hz0
    obtain ⟨wq, HQ⟩ : ∃ u, Hid (madeQ w0 R = u) := ⟨_, rfl⟩
    rw [HQ.out] at hS0 hb0
    have hS := (hS0.same (T0 := SomeT (fun t x => x ∈ t) log 0) (T1 := SomeT firstP log 0) (T2 := SomeT lastP log 0) (T3 := SomeT (fun t p => behP t t.length p) log 0) (fun x => (someT_zero _ log x).symm) (fun x => (someT_zero _ log x).symm) (fun x => (someT_zero _ log x).symm) (fun x => (someT_zero _ log x).symm)).mono (n' := 200 * 0) (by omega)
    clear hS0
    go_enter Try.func7, Try.ntmps7
    go_upto_region 1 with fail
    rw [H0.out, HR.out]
    go_upto_region 5 with (go_at_call 9; refine hw1.mono ?_; rintro e w2 ⟨rfl, hq⟩; rw [hq]; clear hq)
    change Code.wp _ _ _ _ (madeQ w0 R)
    rw [HQ.out]
    clear hmm hw1
    obtain ⟨xb, HX⟩ : ∃ x, Hid (R + 1 + 1 + 1 + 1 + 1 = x) := ⟨_, rfl⟩
    have hxR : Hid (xb ≠ R + 1 ∧ xb ≠ R + 1 + 1 ∧ xb ≠ R + 1 + 1 + 1 ∧ xb ≠ R + 1 + 1 + 1 + 1) := by show _ ∧ _; have := HX.out; omega
    rw [HX.out] at hb0 ⊢
    go_wp2_with fail
    go_loopg [21] len (fun gk i' wr => ∃ k : Nat, k + gk = len ∧ i' = .int .i64 (k : Int) ∧ SeenAt w0 wq wr (R + 1) (R + 1 + 1) (R + 1 + 1 + 1) (R + 1 + 1 + 1 + 1) (200 * k) (SomeT (fun t x => x ∈ t) log k) (SomeT firstP log k) (SomeT lastP log k) (SomeT (fun t p => behP t t.length p) log k))
    case atStart => exact ⟨0, by omega, rfl, hS⟩
    case round =>
      clear hS
      obtain ⟨k, hkg, rfl, hS⟩ := hrel
      have hbr := hb0.blk (hS.kept xb hb0.1 hxR.out.1 hxR.out.2.1 hxR.out.2.2.1 hxR.out.2.2.2) (Nat.lt_of_lt_of_le hb0.1 hS.sizeq)
      obtain ⟨x0, x1, x2, x3, x4⟩ := id hbr
      by_cases hk : k < len
      · obtain ⟨tb, tf, u, rfl, hlt, c2w, hu⟩ := lists_at hv0 hk
        have c2 := (hS.below.cell (p := ⟨tb, tf + k, none⟩) hlt).trans c2w
        clear c2w
        obtain ⟨t, HT⟩ : ∃ t, Hid (log.getD k [] = t) := ⟨_, rfl⟩
        have HTm : Hid (t.length ≤ 60 ∧ ∀ x ∈ t, 1 ≤ x ∧ x ≤ 26) := by rw [← HT.out]; exact HL.out _ (at_lists (by rw [Hlen.out]; exact hk))
        rw [HT.out] at hu
        have hlook := look_any w0 wq wr _ _ _ _ (200 * k) _ _ _ _ hS u t hu (fun x hx => okI_of (by have := HTm.out.2 x hx; omega)) HTm.out.1 (by omega)
        have hkl : k < log.length := by rw [Hlen.out]; exact hk
        go_wp2_with (go_at_call 30; refine hlook.mono ?_; rintro e w3 ⟨rfl, hS3⟩)
        have hS4 := hS3.same (T0 := SomeT (fun t x => x ∈ t) log (k + 1)) (T1 := SomeT firstP log (k + 1)) (T2 := SomeT lastP log (k + 1)) (T3 := SomeT (fun t p => behP t t.length p) log (k + 1))
          (fun x => by rw [← HT.out]; exact someT_succ (f := fun t x => x ∈ t) hkl x) (fun x => by rw [← HT.out]; exact someT_succ hkl x) (fun x => by rw [← HT.out]; exact someT_succ hkl x) (fun x => by rw [← HT.out]; exact someT_succ (f := fun t p => behP t t.length p) hkl x)
        clear hS hS3 hbr x0 x1 x2 x3 x4 c2 hlook
        go_roundg (gk - 1)
        case measure => omega
        case rel => exact ⟨k + 1, by omega, by go_num, by rw [show 200 * (k + 1) = 200 * k + 200 by omega]; exact hS4⟩
      · obtain rfl : k = len := by omega
        have HK : Hid (∀ t ∈ log, ∀ x ∈ t, 1 ≤ x ∧ x ≤ 26) := fun t ht => (HL.out t ht).2
        have hS' := hS
        rw [← Hlen.out] at hS'
        have hpr := prints_any _ _ _ _ (200 * log.length) _ _ _ _ _ _ _ _ wr hS'.s0 hS'.s1 hS'.s2 hS'.s3 (someT_label (g := inT) HK.out in_iff (fun t x h => h)) (someT_label (g := firstT) HK.out first_iff (fun t x h => firstP_mem h)) (someT_label (g := lastT) HK.out last_iff (fun t x h => lastP_mem h)) (someT_pair HK.out) (by rw [Hlen.out]; omega)
        clear hS'
        have HPr : Hid (PrintsL.mk (labels26.filter fun a => log.any (inT a)) (labels26.filter fun a => log.any (firstT a)) (labels26.filter fun a => log.any (lastT a)) (pairs26.filter fun p => log.any (behindT p)) = printsOf log) := rfl
        have hRr := hR.below (hS.below.mono (Nat.le_refl _))
        have hwr0 := hS.below
        clear hbr
        obtain ⟨L0, HL0⟩ : ∃ l, Hid ((labels26.filter fun a => log.any (inT a)) = l) := ⟨_, rfl⟩
        obtain ⟨L1, HL1⟩ : ∃ l, Hid ((labels26.filter fun a => log.any (firstT a)) = l) := ⟨_, rfl⟩
        obtain ⟨L2, HL2⟩ : ∃ l, Hid ((labels26.filter fun a => log.any (lastT a)) = l) := ⟨_, rfl⟩
        obtain ⟨L3, HL3⟩ : ∃ l, Hid ((pairs26.filter fun p => log.any (behindT p)) = l) := ⟨_, rfl⟩
        rw [HL0.out, HL1.out, HL2.out, HL3.out] at HPr
        have hpr' : Calls Try.prog 31 #[.agg #[.map (some (R + 1)), .map (some (R + 1 + 1)), .map (some (R + 1 + 1 + 1)), .map (some (R + 1 + 1 + 1 + 1))]] wr fun e w' => ∃ v, e = .returned v ∧ PrintsV w' v ⟨L0, L1, L2, L3⟩ ∧ Below wr.heap.size wr w' := by
          rw [← HL0.out, ← HL1.out, ← HL2.out, ← HL3.out]; exact hpr
        clear hpr hS
        go_wp2_with (go_at_call 31; refine hpr'.mono ?_; rintro e w5 ⟨r, rfl, hP, b5⟩; obtain ⟨v0, v1, v2, v3, rfl, p0, p1, p2, p3⟩ := hP; obtain ⟨a0, c0, rfl⟩ := ints_slice p0; obtain ⟨a1, c1, rfl⟩ := ints_slice p1; obtain ⟨a2, c2, rfl⟩ := ints_slice p2; obtain ⟨a3, c3, rfl⟩ := pairs_slice p3; have hR5 := hRr.below b5; obtain ⟨⟨gx, g0, g1, g2, g3⟩, gf⟩ := id hR5; have f0 := gf 0; have f1 := gf 1; have f2 := gf 2; have f3 := gf 3)
        have hB := box4_store hR5.1 (.slice a0 L0.length c0) (.slice a1 L1.length c1) (.slice a2 L2.length c2) (.slice a3 L3.length c3)
        have q0 := store4 (Q := fun w => Ints w (.slice a0 L0.length c0) L0) (fun w p a l c u h hp => ints_putS h hp u) hR5.1 p0 (.slice a0 L0.length c0) (.slice a1 L1.length c1) (.slice a2 L2.length c2) (.slice a3 L3.length c3)
        have q1 := store4 (Q := fun w => Ints w (.slice a1 L1.length c1) L1) (fun w p a l c u h hp => ints_putS h hp u) hR5.1 p1 (.slice a0 L0.length c0) (.slice a1 L1.length c1) (.slice a2 L2.length c2) (.slice a3 L3.length c3)
        have q2 := store4 (Q := fun w => Ints w (.slice a2 L2.length c2) L2) (fun w p a l c u h hp => ints_putS h hp u) hR5.1 p2 (.slice a0 L0.length c0) (.slice a1 L1.length c1) (.slice a2 L2.length c2) (.slice a3 L3.length c3)
        have q3 := store4 (Q := fun w => PairsV w (.slice a3 L3.length c3) L3) (fun w p a l c u h hp => pairs_putS h hp u) hR5.1 p3 (.slice a0 L0.length c0) (.slice a1 L1.length c1) (.slice a2 L2.length c2) (.slice a3 L3.length c3)
        have bw5 : Below w.heap.size w w5 := (bw.trans (hwr0.mono (by rw [HR.out]; omega))).trans (b5.mono (by rw [HR.out]; have := hwr0.size; omega))
        have bw' := (((bw5.setCell (p := ⟨R, 0, none⟩) (by rw [HR.out]; exact Nat.le_refl _) (.slice a0 L0.length c0)).setCell (p := ⟨R, 1, none⟩) (by rw [HR.out]; exact Nat.le_refl _) (.slice a1 L1.length c1)).setCell (p := ⟨R, 2, none⟩) (by rw [HR.out]; exact Nat.le_refl _) (.slice a2 L2.length c2)).setCell (p := ⟨R, 3, none⟩) (by rw [HR.out]; exact Nat.le_refl _) (.slice a3 L3.length c3)
        obtain ⟨W, HW⟩ : ∃ W, Hid ((((w5.setCell ⟨R, 0, none⟩ (.slice a0 L0.length c0)).setCell ⟨R, 1, none⟩ (.slice a1 L1.length c1)).setCell ⟨R, 2, none⟩ (.slice a2 L2.length c2)).setCell ⟨R, 3, none⟩ (.slice a3 L3.length c3) = W) := ⟨_, rfl⟩
        rw [HW.out] at hB bw' q0 q1 q2 q3 ⊢
        exact bodyPost_ret (v := .tuple #[.agg #[.slice a0 L0.length c0, .slice a1 L1.length c1, .slice a2 L2.length c2, .slice a3 L3.length c3], .int .i64 0]) (results_prints1 rfl rfl rfl hB) rfl ⟨_, rfl, by rw [← HPr.out]; exact ⟨_, _, _, _, rfl, q0, q1, q2, q3⟩, bw'⟩
  · have hw1 := wrong_any v log w0 hv0
    have HO : Hid (ofL log = (noPrints, wrongV log)) := by show _ = _; unfold ofL; rw [if_neg hw]
    rw [HO.out]
    generalize wrongV log = q at hw hw1 ⊢
    obtain ⟨⟨gx, g0, g1, g2, g3⟩, gf⟩ := id hR
    have f0 := gf 0
    have f1 := gf 1
    have f2 := gf 2
    have f3 := gf 3
    have hB := box4_store hR.1 (.slice none 0 0) (.slice none 0 0) (.slice none 0 0) (.slice none 0 0)
    have bw' := (((bw.setCell (p := ⟨R, 0, none⟩) (by rw [HR.out]; exact Nat.le_refl _) (.slice none 0 0)).setCell (p := ⟨R, 1, none⟩) (by rw [HR.out]; exact Nat.le_refl _) (.slice none 0 0)).setCell (p := ⟨R, 2, none⟩) (by rw [HR.out]; exact Nat.le_refl _) (.slice none 0 0)).setCell (p := ⟨R, 3, none⟩) (by rw [HR.out]; exact Nat.le_refl _) (.slice none 0 0)
    obtain ⟨W, HW⟩ : ∃ W, Hid ((((w0.setCell ⟨R, 0, none⟩ (.slice none 0 0)).setCell ⟨R, 1, none⟩ (.slice none 0 0)).setCell ⟨R, 2, none⟩ (.slice none 0 0)).setCell ⟨R, 3, none⟩ (.slice none 0 0) = W) := ⟨_, rfl⟩
    rw [HW.out] at hB bw'
    go_enter Try.func7, Try.ntmps7
    go_upto_region 1 with fail
    rw [H0.out, HR.out]
    go_wp2_with (go_at_call 9; refine hw1.mono ?_; rintro e w2 ⟨rfl, rfl⟩)
    rw [HW.out]
    exact bodyPost_ret (v := .tuple #[.agg #[.slice none 0 0, .slice none 0 0, .slice none 0 0, .slice none 0 0], .int .i64 q]) (results_prints1 rfl rfl rfl hB) rfl ⟨_, rfl, printsV_none _, bw'⟩

end Go.Proofs.Ytlknegihhcdhbaa

/- slices.Equal over pairs that are the same. -/
namespace Go.Proofs.Ytlknegihhcdhbaa
open Go.RowKit
set_option linter.unusedVariables false
set_option linter.unusedSimpArgs false
set_option maxRecDepth 4000

theorem cellsP_at {l : List (Int × Int)} {k : Nat} (hk : k < l.length) : (cellsP l)[k * 2]? = some (.int .i64 (prAt l k).1) ∧ (cellsP l)[k * 2 + 1]? = some (.int .i64 (prAt l k).2) := by
  have e0 := cellsP_get l (k * 2) (by omega)
  have e1 := cellsP_get l (k * 2 + 1) (by omega)
  rw [show k * 2 / 2 = k by omega, show k * 2 % 2 = 0 by omega] at e0
  rw [show (k * 2 + 1) / 2 = k by omega, show (k * 2 + 1) % 2 = 1 by omega] at e1
  rw [getElem!_pos (cellsP l) _ (by rw [cellsP_len]; omega)] at e0 e1
  have h0 : prAt l k = l[k]! := by unfold prAt; rw [getElem!_pos l k hk, List.getD_eq_getElem?_getD, List.getElem?_eq_getElem hk]; rfl
  rw [h0]
  exact ⟨by rw [List.getElem?_eq_getElem (by rw [cellsP_len]; omega), e0]; rfl, by rw [List.getElem?_eq_getElem (by rw [cellsP_len]; omega), e1]; rfl⟩
theorem PairsV.at {w : World} {a : Option Addr} {n cap : Nat} {l : List (Int × Int)} (h : PairsV w (.slice a n cap) l) {k : Nat} (hk : k < l.length) :
    ∃ b off, a = some ⟨b, off, none⟩ ∧ b < w.heap.size ∧ w.cell? ⟨b, off + k * 2, none⟩ = some (.int .i64 (prAt l k).1) ∧ w.cell? ⟨b, off + (k * 2 + 1), none⟩ = some (.int .i64 (prAt l k).2) := by
  obtain ⟨_, a', cap', e, hl, hm, hs, h1, hr⟩ := h
  injection e with e1 e2 e3
  subst e1
  obtain ⟨c0, c1⟩ := cellsP_at hk
  obtain ⟨b, off, rfl, hlt, h0⟩ := hr _ _ c0
  obtain ⟨b', off', e, _, h1⟩ := hr _ _ c1
  injection e with e
  injection e with e1 e2
  subst e1 e2
  exact ⟨b, off, rfl, hlt, h0, h1⟩

/-- Two pairs held against each other. -/
theorem eqP (a b c d : Int) (w : World) : (Op.equalIn 10000 38 (.agg #[.int .i64 a, .int .i64 b]) (.agg #[.int .i64 c, .int .i64 d])).run Try.prog w = .ok (a == c && b == d) w := by
  have u3 := Try.underlying3
  have a3 := Try.isAgg3
  have z3 := Try.sizeOf3
  rw [show (10000 : Nat) = 9999 + 1 from rfl, Op.equalIn]
  simp only [Sem.run_bind, run_underlying Try.underlying38, Result.andThen_ok]
  simp only [Std.Legacy.Range.forIn_eq_forIn_range', Std.Legacy.Range.size, Nat.sub_zero, Nat.add_sub_cancel, Nat.div_one, List.range'_succ, List.range'_zero, List.forIn_cons, List.forIn_nil]
  go_simp
  by_cases h1 : a = c <;> by_cases h2 : b = d <;> simp [h1, h2]

set_option maxHeartbeats 1000000 in
theorem eqpairs_same (v u : Value) (l : List (Int × Int)) (w : World) (hv : PairsV w v l) (hu : PairsV w u l) :
    Calls Try.prog 23 #[v, u] w fun e w' => e = .returned (.bool true) ∧ Below w.heap.size w w' := by
  obtain ⟨a, ca, rfl⟩ := pairs_slice1 hv
  obtain ⟨b, cb, rfl⟩ := pairs_slice1 hu
  have hmx := hv.1
  obtain ⟨len, hlen⟩ : ∃ len, len = l.length := ⟨_, rfl⟩
  rw [← hlen] at hv hu hmx ⊢
  have e1 : (((len : Nat) : Int) != (len : Int)) = false := by simp
  go_enter Try.func23, Try.ntmps23
  go_wp2_with fail
  go_loopg [13] len (fun g i wr => ∃ k : Nat, k + g = len ∧ i = .int .i64 k ∧ Below w.heap.size w wr)
  case atStart => exact ⟨0, by omega, rfl, Below.refl _ _⟩
  case round =>
    obtain ⟨k, hkg, rfl, hb⟩ := hrel
    by_cases hkn : k < len
    · have hkl : k < l.length := by omega
      obtain ⟨b1, o1, rfl, _, c0, c1⟩ := (hv.below hb).at hkl
      obtain ⟨b2, o2, rfl, _, d0, d1⟩ := (hu.below hb).at hkl
      generalize (prAt l k).1 = z0 at *
      generalize (prAt l k).2 = z1 at *
      rw [← Nat.add_assoc] at c1 d1
      have heq : ∀ w, (Op.equalIn 10000 38 (.agg #[.int .i64 z0, .int .i64 z1]) (.agg #[.int .i64 z0, .int .i64 z1])).run Try.prog w = .ok true w := fun w => by rw [eqP]; simp
      have R : ∀ j, Below w.heap.size w (wr.drewN j) := fun j => below_drewN hb j
      have HR : Hid _ := R
      clear R hb
      go_wp2_with fail
      go_quiet (fail)
      go_wp2
      go_roundg (gk - 1)
      case measure => omega
      case rel => exact ⟨k + 1, by omega, by go_num, HR.out _⟩
    · go_wp2
      go_ret
      exact ⟨rfl, hb⟩

end Go.Proofs.Ytlknegihhcdhbaa

/- The small trial of package tracks that the laws make first: it answers true. -/
namespace Go.Proofs.Ytlknegihhcdhbaa
open Go.RowKit
set_option linter.unusedVariables false
set_option linter.unusedSimpArgs false
set_option maxRecDepth 4000

theorem lists_one (w : World) (x : Value) (xs : List Int) (t : TypeId) (hx : Ints w x xs) : Lists (w.alloc (.cells #[x] t)) (.slice (some ⟨w.heap.size, 0, none⟩) 1 1) [xs] := by
  have hn := below_new w (.cells #[x] t)
  refine ⟨_, _, _, rfl, rfl, by omega, ⟨by omega, by omega, fun h => by cases h⟩, fun j hj => ?_⟩
  match j, hj with
  | 0, _ => exact ⟨w.heap.size, 0, x, rfl, by simp, by rw [World.cell?_alloc_at _ _ _ _ rfl]; rfl, hx.below hn⟩
  | j + 1, h => simp at h
theorem lists_three (w : World) (x y z : Value) (xs ys zs : List Int) (t : TypeId) (hx : Ints w x xs) (hy : Ints w y ys) (hz : Ints w z zs) : Lists (w.alloc (.cells #[x, y, z] t)) (.slice (some ⟨w.heap.size, 0, none⟩) 3 3) [xs, ys, zs] := by
  have hn := below_new w (.cells #[x, y, z] t)
  refine ⟨_, _, _, rfl, rfl, by omega, ⟨by omega, by omega, fun h => by cases h⟩, fun j hj => ?_⟩
  match j, hj with
  | 0, _ => exact ⟨w.heap.size, 0, x, rfl, by simp, by rw [World.cell?_alloc_at _ _ _ _ rfl]; rfl, hx.below hn⟩
  | 1, _ => exact ⟨w.heap.size, 0, y, rfl, by simp, by rw [World.cell?_alloc_at _ _ _ _ rfl]; rfl, hy.below hn⟩
  | 2, _ => exact ⟨w.heap.size, 0, z, rfl, by simp, by rw [World.cell?_alloc_at _ _ _ _ rfl]; rfl, hz.below hn⟩
  | j + 3, h => simp at h; omega
theorem lit22 (w : World) : Lists (((w.alloc (.cells #[.int .i64 1, .int .i64 2, .int .i64 3] 3)).alloc (.cells #[.int .i64 2] 3)).alloc (.cells #[.slice (some ⟨w.heap.size, 0, none⟩) 3 3, .slice (some ⟨w.heap.size + 1, 0, none⟩) 1 1, .slice none 0 0] 23))
      (.slice (some ⟨w.heap.size + 1 + 1, 0, none⟩) 3 3) [[1, 2, 3], [2], []] ∧ Below w.heap.size w (((w.alloc (.cells #[.int .i64 1, .int .i64 2, .int .i64 3] 3)).alloc (.cells #[.int .i64 2] 3)).alloc (.cells #[.slice (some ⟨w.heap.size, 0, none⟩) 3 3, .slice (some ⟨w.heap.size + 1, 0, none⟩) 1 1, .slice none 0 0] 23)) := by
  have b0 := below_new w (.cells #[.int .i64 1, .int .i64 2, .int .i64 3] 3)
  have i0 : Ints (w.alloc (.cells #[.int .i64 1, .int .i64 2, .int .i64 3] 3)) (.slice (some ⟨w.heap.size, 0, none⟩) 3 3) [1, 2, 3] := ints_lit w _ [1, 2, 3] 3 3 rfl (by omega) rfl
  have s0 : (w.alloc (.cells #[.int .i64 1, .int .i64 2, .int .i64 3] 3)).heap.size = w.heap.size + 1 := by simp
  generalize w.alloc (.cells #[.int .i64 1, .int .i64 2, .int .i64 3] 3) = w0 at b0 i0 s0 ⊢
  have b1 := below_new w0 (.cells #[.int .i64 2] 3)
  have i1 : Ints (w0.alloc (.cells #[.int .i64 2] 3)) (.slice (some ⟨w.heap.size + 1, 0, none⟩) 1 1) [2] := ints_lit w0 _ [2] 3 1 rfl (by omega) s0.symm
  have s1 : (w0.alloc (.cells #[.int .i64 2] 3)).heap.size = w.heap.size + 1 + 1 := by simp [s0]
  generalize w0.alloc (.cells #[.int .i64 2] 3) = w1 at b1 i1 s1 ⊢
  have h := lists_three w1 _ _ _ _ _ _ 23 (i0.below b1) i1 (Ints.nil w1)
  have b2 := below_new w1 (.cells #[.slice (some ⟨w.heap.size, 0, none⟩) 3 3, .slice (some ⟨w.heap.size + 1, 0, none⟩) 1 1, .slice none 0 0] 23)
  rw [s1] at h
  exact ⟨h, below_then b0 (below_then b1 b2)⟩
theorem of22 : ofL [[1, 2, 3], [2], []] = (⟨[1, 2, 3], [1, 2], [2, 3], [(1, 2), (2, 3)]⟩, 0) := by kernel_rfl
theorem pairs_lit2 (w : World) (p q r s : Int) : PairsV (w.alloc (.cells #[.int .i64 p, .int .i64 q, .int .i64 r, .int .i64 s] 38)) (.slice (some ⟨w.heap.size, 0, none⟩) 2 2) [(p, q), (r, s)] := by
  refine ⟨by simp, _, _, rfl, rfl, by simp, ⟨by simp, by omega, fun h => by cases h⟩, fun u hu => ?_, fun j u hj => ⟨_, 0, rfl, by simp, ?_⟩⟩
  · simp [cellsP, encP] at hu
    rcases hu with rfl | rfl | rfl | rfl <;> rfl
  · rw [World.cell?_alloc_at _ _ _ _ rfl, Nat.zero_add]
    exact (Array.getElem?_toList).symm.trans hj

theorem lit22c (w : World) : Lists ((w.alloc (.cells #[.int .i64 1, .int .i64 1] 3)).alloc (.cells #[.slice (some ⟨w.heap.size, 0, none⟩) 2 2] 23)) (.slice (some ⟨w.heap.size + 1, 0, none⟩) 1 1) [[1, 1]] ∧
    Below w.heap.size w ((w.alloc (.cells #[.int .i64 1, .int .i64 1] 3)).alloc (.cells #[.slice (some ⟨w.heap.size, 0, none⟩) 2 2] 23)) := by
  have b0 := below_new w (.cells #[.int .i64 1, .int .i64 1] 3)
  have i0 : Ints (w.alloc (.cells #[.int .i64 1, .int .i64 1] 3)) (.slice (some ⟨w.heap.size, 0, none⟩) 2 2) [1, 1] := ints_lit w _ [1, 1] 3 2 rfl (by omega) rfl
  have s0 : (w.alloc (.cells #[.int .i64 1, .int .i64 1] 3)).heap.size = w.heap.size + 1 := by simp
  generalize w.alloc (.cells #[.int .i64 1, .int .i64 1] 3) = w0 at b0 i0 s0 ⊢
  have h := lists_one w0 _ _ 23 i0
  have b2 := below_new w0 (.cells #[.slice (some ⟨w.heap.size, 0, none⟩) 2 2] 23)
  rw [s0] at h
  exact ⟨h, below_then b0 b2⟩
theorem lit22b (w : World) : Lists (((w.alloc (.cells #[.int .i64 1, .int .i64 2, .int .i64 1] 3)).alloc (.cells #[.slice (some ⟨w.heap.size, 0, none⟩) 3 3] 23)).alloc (.cells #[.int .i64 1] 3)) (.slice (some ⟨w.heap.size + 1, 0, none⟩) 1 1) [[1, 2, 1]] ∧
    Ints (((w.alloc (.cells #[.int .i64 1, .int .i64 2, .int .i64 1] 3)).alloc (.cells #[.slice (some ⟨w.heap.size, 0, none⟩) 3 3] 23)).alloc (.cells #[.int .i64 1] 3)) (.slice (some ⟨w.heap.size + 1 + 1, 0, none⟩) 1 1) [1] ∧
    Below w.heap.size w (((w.alloc (.cells #[.int .i64 1, .int .i64 2, .int .i64 1] 3)).alloc (.cells #[.slice (some ⟨w.heap.size, 0, none⟩) 3 3] 23)).alloc (.cells #[.int .i64 1] 3)) := by
  have b0 := below_new w (.cells #[.int .i64 1, .int .i64 2, .int .i64 1] 3)
  have i0 : Ints (w.alloc (.cells #[.int .i64 1, .int .i64 2, .int .i64 1] 3)) (.slice (some ⟨w.heap.size, 0, none⟩) 3 3) [1, 2, 1] := ints_lit w _ [1, 2, 1] 3 3 rfl (by omega) rfl
  have s0 : (w.alloc (.cells #[.int .i64 1, .int .i64 2, .int .i64 1] 3)).heap.size = w.heap.size + 1 := by simp
  generalize w.alloc (.cells #[.int .i64 1, .int .i64 2, .int .i64 1] 3) = w0 at b0 i0 s0 ⊢
  have h := lists_one w0 _ _ 23 i0
  have b1 := below_new w0 (.cells #[.slice (some ⟨w.heap.size, 0, none⟩) 3 3] 23)
  have s1 : (w0.alloc (.cells #[.slice (some ⟨w.heap.size, 0, none⟩) 3 3] 23)).heap.size = w.heap.size + 1 + 1 := by simp [s0]
  generalize w0.alloc (.cells #[.slice (some ⟨w.heap.size, 0, none⟩) 3 3] 23) = w1 at h b1 s1 ⊢
  have b2 := below_new w1 (.cells #[.int .i64 1] 3)
  have i2 : Ints (w1.alloc (.cells #[.int .i64 1] 3)) (.slice (some ⟨w.heap.size + 1 + 1, 0, none⟩) 1 1) [1] := ints_lit w1 _ [1] 3 1 rfl (by omega) s1.symm
  rw [s0] at h
  exact ⟨h.below b2, i2, below_then b0 (below_then b1 b2)⟩
theorem onto22 : ontoL [[1, 2, 1]] [1] = [[1, 1]] := by decide

set_option maxHeartbeats 4000000 in
theorem alive22_any (w : World) :
    Calls Try.prog 15 #[] w fun e w' => e = .returned (.bool true) ∧ Below w.heap.size w w' := by
  obtain ⟨hv, c⟩ := lit22 w
  go_enter Try.func15, Try.ntmps15
  go_wp2_with fail
  refine (of_any _ _ _ (by exact hv)).mono ?_
  rw [of22]
  rintro e w1 ⟨r, rfl, ⟨v0, v1, v2, v3, rfl, p0, p1, p2, p3⟩, b⟩
  obtain ⟨a0, c0, rfl⟩ := ints_slice p0
  obtain ⟨a1, c1, rfl⟩ := ints_slice p1
  obtain ⟨a2, c2, rfl⟩ := ints_slice p2
  obtain ⟨a3, c3, rfl⟩ := pairs_slice p3
  replace c := below_then c b
  clear b hv
  simp only [List.length_cons, List.length_nil, Nat.zero_add, Nat.reduceAdd] at p0 p1 p2 p3 ⊢
  have hx := box4_new w1 (.slice a0 3 c0) (.slice a1 2 c1) (.slice a2 2 c2) (.slice a3 2 c3) 26
  have bn := below_new w1 (.cells #[.slice a0 3 c0, .slice a1 2 c1, .slice a2 2 c2, .slice a3 2 c3] 26)
  obtain ⟨x, HX⟩ : ∃ x, Hid (w1.heap.size = x) := ⟨_, rfl⟩
  obtain ⟨w2, HW⟩ : ∃ u, Hid (w1.alloc (.cells #[.slice a0 3 c0, .slice a1 2 c1, .slice a2 2 c2, .slice a3 2 c3] 26) = u) := ⟨_, rfl⟩
  replace p0 := p0.below bn
  replace p1 := p1.below bn
  replace p2 := p2.below bn
  replace p3 := p3.below bn
  replace c := below_then c bn
  rw [HW.out] at hx p0 p1 p2 p3 c
  rw [HX.out] at hx
  go_upto_region 2 with fail
  rw [HX.out, HW.out]
  clear HX HW bn
  have bt := below_new w2 (.cells #[.int .i64 1, .int .i64 2, .int .i64 3] 3)
  have ht : Ints (w2.alloc (.cells #[.int .i64 1, .int .i64 2, .int .i64 3] 3)) (.slice (some ⟨w2.heap.size, 0, none⟩) 3 3) [1, 2, 3] := ints_lit w2 _ [1, 2, 3] 3 3 rfl (by omega) rfl
  obtain ⟨xx, x0, x1, x2, x3⟩ := id hx
  go_wp2_with fail
  refine (equal_b _ _ [1, 2, 3] [1, 2, 3] _ (by exact p0.below bt) (by exact ht)).mono ?_
  rintro e w3 ⟨rfl, b⟩
  rw [beq_self_eq_true]
  replace b := below_then bt b
  replace hx := hx.below b
  replace p0 := p0.below b
  replace p1 := p1.below b
  replace p2 := p2.below b
  replace p3 := p3.below b
  replace c := below_then c b
  clear b bt ht xx x0 x1 x2 x3
  have bt := below_new w3 (.cells #[.int .i64 1, .int .i64 2] 3)
  have ht : Ints (w3.alloc (.cells #[.int .i64 1, .int .i64 2] 3)) (.slice (some ⟨w3.heap.size, 0, none⟩) 2 2) [1, 2] := ints_lit w3 _ [1, 2] 3 2 rfl (by omega) rfl
  obtain ⟨xx, x0, x1, x2, x3⟩ := id hx
  go_wp2_with fail
  refine (equal_b _ _ [1, 2] [1, 2] _ (by exact p1.below bt) (by exact ht)).mono ?_
  rintro e w4 ⟨rfl, b⟩
  rw [beq_self_eq_true]
  replace b := below_then bt b
  replace hx := hx.below b
  replace p0 := p0.below b
  replace p1 := p1.below b
  replace p2 := p2.below b
  replace p3 := p3.below b
  replace c := below_then c b
  clear b bt ht xx x0 x1 x2 x3
  have bt := below_new w4 (.cells #[.int .i64 2, .int .i64 3] 3)
  have ht : Ints (w4.alloc (.cells #[.int .i64 2, .int .i64 3] 3)) (.slice (some ⟨w4.heap.size, 0, none⟩) 2 2) [2, 3] := ints_lit w4 _ [2, 3] 3 2 rfl (by omega) rfl
  obtain ⟨xx, x0, x1, x2, x3⟩ := id hx
  go_wp2_with fail
  refine (equal_b _ _ [2, 3] [2, 3] _ (by exact p2.below bt) (by exact ht)).mono ?_
  rintro e w5 ⟨rfl, b⟩
  rw [beq_self_eq_true]
  replace b := below_then bt b
  replace hx := hx.below b
  replace p0 := p0.below b
  replace p1 := p1.below b
  replace p2 := p2.below b
  replace p3 := p3.below b
  replace c := below_then c b
  clear b bt ht xx x0 x1 x2 x3
  have bt := below_new w5 (.cells #[.int .i64 1, .int .i64 2, .int .i64 2, .int .i64 3] 38)
  have ht := pairs_lit2 w5 1 2 2 3
  obtain ⟨xx, x0, x1, x2, x3⟩ := id hx
  go_wp2_with fail
  refine (eqpairs_same _ _ [(1, 2), (2, 3)] _ (by exact p3.below bt) (by exact ht)).mono ?_
  rintro e w6 ⟨rfl, b⟩
  replace c := below_then c (below_then bt b)
  clear b bt ht xx x0 x1 x2 x3 hx p0 p1 p2 p3
  obtain ⟨hl, hi, bl⟩ := lit22b w6
  go_wp2_with fail
  refine (onto_any _ _ [[1, 2, 1]] [1] _ (by exact hl) (by exact hi) (fun x hx => okI_of (by simp at hx; omega)) (fun t ht x hx => okI_of (by simp at ht; subst ht; simp at hx; omega)) (by simp)).mono ?_
  rw [onto22]
  rintro e w7 ⟨r, rfl, hr, b⟩
  obtain ⟨ra, rc, rfl, _⟩ := hr.slice
  replace c := below_then c (below_then bl b)
  clear hl hi bl b
  obtain ⟨hl, bl⟩ := lit22c w7
  go_wp2_with fail
  refine (samelists_same _ _ [[1, 1]] _ (by exact hr.below bl) (by exact hl)).mono ?_
  rintro e w8 ⟨rfl, b⟩
  replace c := below_then c (below_then bl b)
  clear hl bl b hr
  go_wp2
  go_ret
  exact ⟨rfl, c⟩

end Go.Proofs.Ytlknegihhcdhbaa

/- Onto less, and less again, is onto what both have. -/
namespace Go.Proofs.Ytlknegihhcdhbaa
open Go.RowKit Go.Lib Go.Sort
set_option linter.unusedVariables false
set_option linter.unusedSimpArgs false
set_option maxRecDepth 4000

theorem onto_ok {log : List (List Int)} {ls : List Int} (h : ∀ t ∈ log, ∀ x ∈ t, okI x) : ∀ t ∈ ontoL log ls, ∀ x ∈ t, okI x := by
  intro t ht x hx
  unfold ontoL at ht
  obtain ⟨s, hs, rfl⟩ := List.mem_map.1 ht
  exact h s hs x (List.mem_filter.1 hx).1
theorem onto_len (log : List (List Int)) (ls : List Int) : (ontoL log ls).length = log.length := by simp [ontoL]
theorem onto1_asks (w0 : World) (x : Nat) (v : Value) (b : List Int) (hx : Box1 w0 x v) (hv : Ints w0 v b) : AsksQ1 w0 29 (.pointer (some ⟨x, 0, none⟩)) (fun y => !hasL b y) := by
  intro y w hb
  have hx1 := (hx.below hb).2
  have hv1 := hv.below hb
  obtain ⟨a, c, rfl⟩ := ints_slice hv
  have hc := contains_any _ b y w hv1
  obtain ⟨q, Hq⟩ : ∃ q, Hid (hasL b y = q) := ⟨_, rfl⟩
  rw [Hq.out] at hc
  show Calls _ _ _ _ fun e w' => e = .returned (.bool (!hasL b y)) ∧ _
  rw [Hq.out]
  go_enter Try.func29, Try.ntmps29
  go_wp2_with (go_at_call 26; refine hc.mono ?_; rintro e w5 ⟨rfl, rfl⟩)
  go_ret
  exact ⟨rfl, Below.refl _ _⟩
theorem onto1_enters : ∀ args w, (callFunc 29 args).run Try.prog w = .ok (.enter 29 args) w := enters_of Try.func29 (by kernel_rfl) rfl

set_option maxHeartbeats 4000000 in
theorem tracksOnto_law (v va vb : Value) (log : List (List Int)) (a b : List Int) (w : World) (hv : Lists w v log) (ha : Ints w va a) (hb : Ints w vb b) (oa : ∀ x ∈ a, okI x) (ob : ∀ x ∈ b, okI x) (ol : ∀ t ∈ log, ∀ x ∈ t, okI x) (hlog : log.length ≤ 5864062014805) :
    Calls Try.prog 6 #[v, va, vb] w fun e w' => e = .returned (.bool true) ∧ Below w.heap.size w w' := by
  obtain ⟨ba, bc, rfl⟩ := ints_slice hb
  obtain ⟨aa, ac, rfl⟩ := ints_slice ha
  obtain ⟨la, lc, rfl, _, _⟩ := hv.slice
  have hal : a.length ≤ 17592186044416 := by obtain ⟨_, _, _, _, h1, h2, _⟩ := id ha; omega
  have c := below_new w (.cells #[.slice ba b.length bc] 23)
  have hx := box1_new w (.slice ba b.length bc) 23
  replace hv := hv.below c
  replace ha := ha.below c
  replace hb := hb.below c
  obtain ⟨x, HX⟩ : ∃ x, Hid (w.heap.size = x) := ⟨_, rfl⟩
  obtain ⟨w1, H1⟩ : ∃ u, Hid (w.alloc (.cells #[.slice ba b.length bc] 23) = u) := ⟨_, rfl⟩
  rw [H1.out] at c hx hv ha hb
  rw [HX.out] at hx
  have OA : Hid (∀ x ∈ a, okI x) := oa
  have OB : Hid (∀ x ∈ b, okI x) := ob
  have OL : Hid (∀ t ∈ log, ∀ x ∈ t, okI x) := ol
  clear oa ob ol
  go_enter Try.func6, Try.ntmps6
  go_upto_region 1 with fail
  rw [H1.out, HX.out]
  go_wp2_with fail
  refine (alive22_any _).mono ?_
  rintro e w2 ⟨rfl, b1⟩
  replace hv := hv.below b1
  replace ha := ha.below b1
  replace hb := hb.below b1
  replace hx := hx.below b1
  replace c := below_then c b1
  clear b1
  go_wp2_with fail
  refine (clone_any _ a _ (by exact ha)).mono ?_
  rintro e w3 ⟨r, rfl, hO⟩
  go_wp2_with fail
  refine (deletefuncQ1 w2 _ _ _ (onto1_asks w2 x _ b hx hb) onto1_enters r a w3 hO hal).mono ?_
  rintro e w4 ⟨u, rfl, hu, _, b2⟩
  have HF : Hid ((a.filter fun x => !(!hasL b x)) = a.filter fun x => b.contains x) := by
    show _ = _
    refine List.filter_congr fun x _ => ?_
    unfold hasL
    rw [Bool.not_not]
  obtain ⟨both, HBo⟩ : ∃ l, Hid ((a.filter fun x => b.contains x) = l) := ⟨_, rfl⟩
  rw [HF.out, HBo.out] at hu
  replace hv := hv.below b2
  replace ha := ha.below b2
  replace hb := hb.below b2
  replace hx := hx.below b2
  replace c := below_then c b2
  clear b2 hO
  have hx0 := hx.2
  go_upto_region 4 with fail
  have bd := (Below.refl w4.heap.size w4).drew
  go_region_held3 (fun w' => w'.cell? ⟨x, 0, none⟩ = some (.slice ba b.length bc))
    (go_keep)
    (first
      | (go_at_call 13; (with_reducible refine (onto_any (.slice la log.length lc) (.slice aa a.length ac) log a _ ?_ ?_ OA.out OL.out hlog).mono ?_); (exact hv.below bd); (exact ha.below bd); rintro e w5 ⟨r1, rfl, hr1, b5⟩; have b5' := below_then bd b5; have hx5 := (hx.below b5').2; have hb5 := hb.below b5'; obtain ⟨xa, xc, rfl, _, _⟩ := hr1.slice)
      | (go_at_call 13; (with_reducible refine (onto_any _ (.slice ba b.length bc) (ontoL log a) b _ ?_ ?_ OB.out (onto_ok OL.out) ?_).mono ?_); (assumption); (assumption); (rw [onto_len]; exact hlog); rintro e w6 ⟨r2, rfl, hr2, b6⟩; have hx6 := (hx.below (below_then b5' b6)).2; obtain ⟨ya, yc, rfl, _, _⟩ := hr2.slice))
  have b7 := below_then b5' b6
  rw [onto_both, HBo.out, onto_len] at hr2
  rw [onto_len, onto_len]
  replace hv := hv.below b7
  replace ha := ha.below b7
  replace hb := hb.below b7
  replace hx := hx.below b7
  replace hu := hu.below b7
  replace c := below_then c b7
  clear b7 b5 b6 b5' bd hx0 hx5 hx6 hb5 hr1
  obtain ⟨ua, uc, rfl⟩ := ints_slice hu
  have OB2 : Hid (∀ x ∈ both, okI x) := by rw [← HBo.out]; exact fun x hx => OA.out x (List.mem_filter.1 hx).1
  have hx0 := hx.2
  go_wp2_with fail
  refine (onto_any _ _ log both _ (by exact hv) (by exact hu) OB2.out OL.out hlog).mono ?_
  rintro e w7 ⟨r3, rfl, hr3, b7⟩
  obtain ⟨za, zc, rfl, _, _⟩ := hr3.slice
  have b8 := b7
  replace hv := hv.below b7
  replace ha := ha.below b7
  replace hb := hb.below b7
  replace hx := hx.below b7
  replace hr2 := hr2.below b7
  replace c := below_then c b7
  clear b7 b8 hx0 hu
  go_wp2_with fail
  refine (samelists_same _ _ (ontoL log both) _ (by exact hr2) (by exact hr3)).mono ?_
  rintro e w8 ⟨rfl, b7⟩
  replace hv := hv.below b7
  replace ha := ha.below b7
  replace hb := hb.below b7
  replace hx := hx.below b7
  replace hr2 := hr2.below b7
  replace c := below_then c b7
  clear b7 hr3
  have hx0 := hx.2
  go_wp2_with fail
  refine (onto_any _ _ log b _ (by exact hv) (by exact hb) OB.out OL.out hlog).mono ?_
  rintro e w9 ⟨r4, rfl, hr4, b7⟩
  obtain ⟨qa, qc, rfl, _, _⟩ := hr4.slice
  replace ha := ha.below b7
  replace hr2 := hr2.below b7
  replace c := below_then c b7
  clear b7 hx0
  go_wp2_with fail
  refine (onto_any _ _ (ontoL log b) a _ (by exact hr4) (by exact ha) OA.out (onto_ok OL.out) (by rw [onto_len]; exact hlog)).mono ?_
  rintro e w10 ⟨r5, rfl, hr5, b7⟩
  rw [onto_swap, onto_both, HBo.out] at hr5
  obtain ⟨pa, pc, rfl, _, _⟩ := hr5.slice
  replace hr2 := hr2.below b7
  replace c := below_then c b7
  clear b7 hr4
  go_wp2_with fail
  refine (samelists_same _ _ (ontoL log both) _ (by exact hr2) (by exact hr5)).mono ?_
  rintro e w11 ⟨rfl, b7⟩
  replace c := below_then c b7
  go_wp2
  go_ret
  exact ⟨rfl, c⟩

theorem tracksOnto_walk (v0 v1 v2 : Value) (x0 : List (List Int)) (x1 x2 : List Int) (W : World) (i0 : Lists W v0 x0) (i1 : Ints W v1 x1) (i2 : Ints W v2 x2) (h0 : x0.length ≤ 5864062014805) (f0 : ∀ t ∈ x0, ∀ z ∈ t, (Lit.int .i64 z).wf = true)
    (f1 : ∀ z ∈ x1, (Lit.int .i64 z).wf = true) (f2 : ∀ z ∈ x2, (Lit.int .i64 z).wf = true) :
    Calls Try.prog 6 #[v0, v1, v2] W fun e W' => e = .returned (.bool true) ∧ Below W.heap.size W W' := tracksOnto_law v0 v1 v2 x0 x1 x2 W i0 i1 i2 f1 f2 f0 h0

end Go.Proofs.Ytlknegihhcdhbaa
