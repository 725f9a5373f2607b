import Derived.Test.YtlknegihhcdhbaaTrRiseI
import Derived.Test.YtlknegihhcdhbaaGr12
/- What the traces have shown so far: four sets. -/
namespace Go.Proofs.Ytlknegihhcdhbaa
open Go.RowKit
set_option linter.unusedVariables false
set_option linter.unusedSimpArgs false
set_option maxRecDepth 4000

theorem SetA.mono {α : Type} {K : TypeId} {lit : α → Lit} {ok : α → Prop} {w : World} {b n n' : Nat} {S : α → Prop} (h : SetA K lit ok w b n S) (hn : n ≤ n') : SetA K lit ok w b n' S := by
  obtain ⟨D, h1, h2⟩ := h; exact ⟨D, h1.mono hn, h2⟩
def firstP (t : List Int) (x : Int) : Prop := t ≠ [] ∧ x = nth t 0
def lastP (t : List Int) (x : Int) : Prop := t ≠ [] ∧ x = nth t (t.length - 1)
def behP (t : List Int) (k : Nat) (p : Int × Int) : Prop := ∃ j, 0 < j ∧ j < k ∧ nth t (j - 1) = p.1 ∧ nth t j = p.2

/-- Four sets at work. -/
structure SeenAt (w0 wq w : World) (b0 b1 b2 b3 n : Nat) (S0 S1 S2 : Int → Prop) (S3 : Int × Int → Prop) : Prop where
  s0 : SetI w b0 n S0
  s1 : SetI w b1 n S1
  s2 : SetI w b2 n S2
  s3 : SetP w b3 n S3
  ge : w0.heap.size ≤ b0 ∧ w0.heap.size ≤ b1 ∧ w0.heap.size ≤ b2 ∧ w0.heap.size ≤ b3
  ne : b0 ≠ b1 ∧ b0 ≠ b2 ∧ b0 ≠ b3 ∧ b1 ≠ b2 ∧ b1 ≠ b3 ∧ b2 ≠ b3
  below : Below w0.heap.size w0 w
  sizeq : wq.heap.size ≤ w.heap.size
  kept : ∀ q, q < wq.heap.size → q ≠ b0 → q ≠ b1 → q ≠ b2 → q ≠ b3 → w.heap[q]? = wq.heap[q]?
section
variable {w0 wq w w' : World} {b0 b1 b2 b3 n : Nat} {S0 S1 S2 : Int → Prop} {S3 : Int × Int → Prop}
theorem SeenAt.size (h : SeenAt w0 wq w b0 b1 b2 b3 n S0 S1 S2 S3) : w0.heap.size ≤ w.heap.size := h.below.size
theorem SeenAt.to (h : SeenAt w0 wq w b0 b1 b2 b3 n S0 S1 S2 S3) (hb : Below w.heap.size w w') : SeenAt w0 wq w' b0 b1 b2 b3 n S0 S1 S2 S3 :=
  ⟨h.s0.below hb, h.s1.below hb, h.s2.below hb, h.s3.below hb, h.ge, h.ne, h.below.trans (hb.mono h.size), Nat.le_trans h.sizeq hb.size, fun q hq k0 k1 k2 k3 => (hb.block q (Nat.lt_of_lt_of_le hq h.sizeq)).trans (h.kept q hq k0 k1 k2 k3)⟩
theorem SeenAt.mono (h : SeenAt w0 wq w b0 b1 b2 b3 n S0 S1 S2 S3) {n' : Nat} (hn : n ≤ n') : SeenAt w0 wq w b0 b1 b2 b3 n' S0 S1 S2 S3 :=
  ⟨h.s0.mono hn, h.s1.mono hn, h.s2.mono hn, h.s3.mono hn, h.ge, h.ne, h.below, h.sizeq, h.kept⟩
theorem SeenAt.add0 (h : SeenAt w0 wq w b0 b1 b2 b3 n S0 S1 S2 S3) {S : Int → Prop} (hs : SetI w' b0 (n + 1) S) (hg : w.grownBy w' (some b0)) : SeenAt w0 wq w' b0 b1 b2 b3 (n + 1) S S1 S2 S3 := by
  obtain ⟨e1, e2, e3, e4, e5, e6⟩ := h.ne
  exact ⟨hs, (h.s1.kept hg (fun e => by injection e with e; omega)).mono (by omega), (h.s2.kept hg (fun e => by injection e with e; omega)).mono (by omega), (h.s3.kept hg (fun e => by injection e with e; omega)).mono (by omega), h.ge, h.ne, h.below.grown hg h.size (fun j e => by injection e with e; have := h.ge; omega), Nat.le_trans h.sizeq hg.size, fun q hq k0 k1 k2 k3 => (hg.block q (Nat.lt_of_lt_of_le hq h.sizeq) (fun e => by injection e with e; exact k0 e)).trans (h.kept q hq k0 k1 k2 k3)⟩
theorem SeenAt.add1 (h : SeenAt w0 wq w b0 b1 b2 b3 n S0 S1 S2 S3) {S : Int → Prop} (hs : SetI w' b1 (n + 1) S) (hg : w.grownBy w' (some b1)) : SeenAt w0 wq w' b0 b1 b2 b3 (n + 1) S0 S S2 S3 := by
  obtain ⟨e1, e2, e3, e4, e5, e6⟩ := h.ne
  exact ⟨(h.s0.kept hg (fun e => by injection e with e; omega)).mono (by omega), hs, (h.s2.kept hg (fun e => by injection e with e; omega)).mono (by omega), (h.s3.kept hg (fun e => by injection e with e; omega)).mono (by omega), h.ge, h.ne, h.below.grown hg h.size (fun j e => by injection e with e; have := h.ge; omega), Nat.le_trans h.sizeq hg.size, fun q hq k0 k1 k2 k3 => (hg.block q (Nat.lt_of_lt_of_le hq h.sizeq) (fun e => by injection e with e; exact k1 e)).trans (h.kept q hq k0 k1 k2 k3)⟩
theorem SeenAt.add2 (h : SeenAt w0 wq w b0 b1 b2 b3 n S0 S1 S2 S3) {S : Int → Prop} (hs : SetI w' b2 (n + 1) S) (hg : w.grownBy w' (some b2)) : SeenAt w0 wq w' b0 b1 b2 b3 (n + 1) S0 S1 S S3 := by
  obtain ⟨e1, e2, e3, e4, e5, e6⟩ := h.ne
  exact ⟨(h.s0.kept hg (fun e => by injection e with e; omega)).mono (by omega), (h.s1.kept hg (fun e => by injection e with e; omega)).mono (by omega), hs, (h.s3.kept hg (fun e => by injection e with e; omega)).mono (by omega), h.ge, h.ne, h.below.grown hg h.size (fun j e => by injection e with e; have := h.ge; omega), Nat.le_trans h.sizeq hg.size, fun q hq k0 k1 k2 k3 => (hg.block q (Nat.lt_of_lt_of_le hq h.sizeq) (fun e => by injection e with e; exact k2 e)).trans (h.kept q hq k0 k1 k2 k3)⟩
theorem SeenAt.add3 (h : SeenAt w0 wq w b0 b1 b2 b3 n S0 S1 S2 S3) {S : Int × Int → Prop} (hs : SetP w' b3 (n + 1) S) (hg : w.grownBy w' (some b3)) : SeenAt w0 wq w' b0 b1 b2 b3 (n + 1) S0 S1 S2 S := by
  obtain ⟨e1, e2, e3, e4, e5, e6⟩ := h.ne
  exact ⟨(h.s0.kept hg (fun e => by injection e with e; omega)).mono (by omega), (h.s1.kept hg (fun e => by injection e with e; omega)).mono (by omega), (h.s2.kept hg (fun e => by injection e with e; omega)).mono (by omega), hs, h.ge, h.ne, h.below.grown hg h.size (fun j e => by injection e with e; have := h.ge; omega), Nat.le_trans h.sizeq hg.size, fun q hq k0 k1 k2 k3 => (hg.block q (Nat.lt_of_lt_of_le hq h.sizeq) (fun e => by injection e with e; exact k3 e)).trans (h.kept q hq k0 k1 k2 k3)⟩
theorem SeenAt.same (h : SeenAt w0 wq w b0 b1 b2 b3 n S0 S1 S2 S3) {T0 T1 T2 : Int → Prop} {T3 : Int × Int → Prop} (h0 : ∀ x, S0 x ↔ T0 x) (h1 : ∀ x, S1 x ↔ T1 x) (h2 : ∀ x, S2 x ↔ T2 x) (h3 : ∀ x, S3 x ↔ T3 x) : SeenAt w0 wq w b0 b1 b2 b3 n T0 T1 T2 T3 :=
  ⟨h.s0.same fun x _ => h0 x, h.s1.same fun x _ => h1 x, h.s2.same fun x _ => h2 x, h.s3.same fun x _ => h3 x, h.ge, h.ne, h.below, h.sizeq, h.kept⟩
end

/-- A box of four cells, that no set lies in. -/
def Box4 (w : World) (x : Nat) (v0 v1 v2 v3 : Value) : Prop := x < w.heap.size ∧ w.cell? ⟨x, 0, none⟩ = some v0 ∧ w.cell? ⟨x, 1, none⟩ = some v1 ∧ w.cell? ⟨x, 2, none⟩ = some v2 ∧ w.cell? ⟨x, 3, none⟩ = some v3
theorem box4_new (w : World) (v0 v1 v2 v3 : Value) (t : TypeId) : Box4 (w.alloc (.cells #[v0, v1, v2, v3] t)) w.heap.size v0 v1 v2 v3 :=
  ⟨by simp, by rw [World.cell?_alloc_at _ _ _ _ rfl]; rfl, by rw [World.cell?_alloc_at _ _ _ _ rfl]; rfl, by rw [World.cell?_alloc_at _ _ _ _ rfl]; rfl, by rw [World.cell?_alloc_at _ _ _ _ rfl]; rfl⟩
theorem Box4.below {w w' : World} {x : Nat} {v0 v1 v2 v3 : Value} (h : Box4 w x v0 v1 v2 v3) (hb : Below w.heap.size w w') : Box4 w' x v0 v1 v2 v3 := by
  obtain ⟨hx, h0, h1, h2, h3⟩ := h
  exact ⟨Nat.lt_of_lt_of_le hx hb.size, by rw [hb.cell (p := ⟨x, 0, none⟩) hx]; exact h0, by rw [hb.cell (p := ⟨x, 1, none⟩) hx]; exact h1, by rw [hb.cell (p := ⟨x, 2, none⟩) hx]; exact h2, by rw [hb.cell (p := ⟨x, 3, none⟩) hx]; exact h3⟩
theorem Box4.grown {w w' : World} {x b : Nat} {v0 v1 v2 v3 : Value} (h : Box4 w x v0 v1 v2 v3) (hg : w.grownBy w' (some b)) (hne : x ≠ b) : Box4 w' x v0 v1 v2 v3 := by
  obtain ⟨hx, h0, h1, h2, h3⟩ := h
  have hB : w'.heap[x]? = w.heap[x]? := hg.block x hx (fun e => by injection e with e; omega)
  exact ⟨Nat.lt_of_lt_of_le hx hg.size, (World.cell?_of_block (a := ⟨x, 0, none⟩) hB).trans h0, (World.cell?_of_block (a := ⟨x, 1, none⟩) hB).trans h1, (World.cell?_of_block (a := ⟨x, 2, none⟩) hB).trans h2, (World.cell?_of_block (a := ⟨x, 3, none⟩) hB).trans h3⟩

end Go.Proofs.Ytlknegihhcdhbaa

/- look: what a trace shows. -/
namespace Go.Proofs.Ytlknegihhcdhbaa
open Go.RowKit
set_option linter.unusedVariables false
set_option linter.unusedSimpArgs false
set_option maxRecDepth 4000

theorem behP_succ (t : List Int) (k : Nat) (p : Int × Int) : behP t (k + 1) p ↔ behP t k p ∨ (0 < k ∧ p = (nth t (k - 1), nth t k)) := by
  unfold behP
  constructor
  · rintro ⟨j, h0, h1, h2, h3⟩
    by_cases e : j = k
    · subst e; exact .inr ⟨h0, Prod.ext h2.symm h3.symm⟩
    · exact .inl ⟨j, h0, by omega, h2, h3⟩
  · rintro (⟨j, h0, h1, h2, h3⟩ | ⟨h0, rfl⟩)
    · exact ⟨j, h0, by omega, h2, h3⟩
    · exact ⟨k, h0, by omega, rfl, rfl⟩

theorem ints_cells {w : World} {a : Option Addr} {len cap : Nat} {xs : List Int} (h : Ints w (.slice a len cap) xs) (hp : 0 < len) : ∃ b off, a = some ⟨b, off, none⟩ ∧ b < w.heap.size ∧ ∀ k, k < len → w.cell? ⟨b, off + k, none⟩ = some (.int .i64 (nth xs k)) := by
  obtain ⟨b, off, rfl, hlt, _⟩ := ints_atL h hp
  refine ⟨b, off, rfl, hlt, fun k hk => ?_⟩
  obtain ⟨b', off', e, _, hc⟩ := ints_atL h hk
  injection e with e
  injection e with e1 e2
  subst e1 e2
  exact hc

set_option maxHeartbeats 4000000 in
theorem look_any (w0 wq w : World) (b0 b1 b2 b3 n : Nat) (S0 S1 S2 : Int → Prop) (S3 : Int × Int → Prop) (h : SeenAt w0 wq w b0 b1 b2 b3 n S0 S1 S2 S3) (v : Value) (t : List Int) (hv : Ints w0 v t) (ht : ∀ x ∈ t, okI x) (hl : t.length ≤ 60) (hn : n + 200 ≤ 1000000) :
    Calls Try.prog 30 #[.agg #[.map (some b0), .map (some b1), .map (some b2), .map (some b3)], v] w fun e w' => e = .returned (.tuple #[]) ∧
      SeenAt w0 wq w' b0 b1 b2 b3 (n + 200) (fun x => S0 x ∨ x ∈ t) (fun x => S1 x ∨ firstP t x) (fun x => S2 x ∨ lastP t x) (fun p => S3 p ∨ behP t t.length p) := by
  obtain ⟨a, len, cap, rfl, hlen, hmx, hsh, hr⟩ := id hv
  have Hlen : Hid (t.length = len) := hlen
  rw [Hlen.out] at hl
  clear hlen hsh hr
  have Ht : Hid (∀ k, k < len → okI (nth t k)) := fun k hk => ht _ (by rw [nth_get (by rw [Hlen.out]; exact hk)]; exact List.getElem_mem _)
  clear ht
  have hbx := box4_new w (.map (some b0)) (.map (some b1)) (.map (some b2)) (.map (some b3)) 58
  have hS := h.to (below_new w (.cells #[.map (some b0), .map (some b1), .map (some b2), .map (some b3)] 58))
  have hxb : Hid (w.heap.size ≠ b0 ∧ w.heap.size ≠ b1 ∧ w.heap.size ≠ b2 ∧ w.heap.size ≠ b3) := by
    have := h.s0.lt; have := h.s1.lt; have := h.s2.lt; have := h.s3.lt
    show _ ∧ _
    omega
  obtain ⟨w1, H1⟩ : ∃ u, Hid (w.alloc (.cells #[.map (some b0), .map (some b1), .map (some b2), .map (some b3)] 58) = u) := ⟨_, rfl⟩
  rw [H1.out] at hbx hS
  clear h
  go_enter Try.func30, Try.ntmps30
  go_upto_region 1 with fail
  rw [H1.out]
  by_cases hz : len = 0
  · subst hz
    have ht0 : t = [] := List.length_eq_zero_iff.1 Hlen.out
    subst ht0
    have hS' := (hS.mono (n' := n + 200) (by omega)).same (T0 := fun x => S0 x ∨ x ∈ ([] : List Int)) (T1 := fun x => S1 x ∨ firstP [] x) (T2 := fun x => S2 x ∨ lastP [] x) (T3 := fun p => S3 p ∨ behP [] ([] : List Int).length p)
      (fun x => by simp) (fun x => by simp [firstP]) (fun x => by simp [lastP]) (fun x => by unfold behP; simp)
    clear hS
    go_wp2
    (try simp only [Exit.inBlock, Exit.then])
    refine bodyPost_ret (results_none rfl _ _ _) rfl ?_
    exact ⟨rfl, hS'⟩
  · have Hne : Hid (t ≠ []) := fun e => by have := Hlen.out; rw [e] at this; exact hz this.symm
    have hpos : 0 < len := by omega
    obtain ⟨tb, tf, rfl, hltb, hcs⟩ := ints_cells hv hpos
    have HC : Hid (∀ (wr : World) k, k < len → Below w0.heap.size w0 wr → wr.cell? ⟨tb, tf + k, none⟩ = some (.int .i64 (nth t k))) := fun wr k hk hb => by rw [hb.cell (p := ⟨tb, tf + k, none⟩) hltb]; exact hcs k hk
    clear hcs
    have c0 := HC.out w1 0 hpos hS.below
    have cL := HC.out w1 (len - 1) (by omega) hS.below
    obtain ⟨z0, Hz0⟩ : ∃ z, Hid (nth t 0 = z) := ⟨_, rfl⟩
    obtain ⟨zl, Hzl⟩ : ∃ z, Hid (nth t (len - 1) = z) := ⟨_, rfl⟩
    have Hok0 : Hid (okI z0) := by show okI _; rw [← Hz0.out]; exact Ht.out 0 hpos
    have Hokl : Hid (okI zl) := by show okI _; rw [← Hzl.out]; exact Ht.out _ (by omega)
    rw [Hz0.out] at c0
    rw [Hzl.out] at cL
    obtain ⟨x0, x1, x2, x3, x4⟩ := id hbx
    have i0 : (0 : Int) < (len : Int) := by omega
    rw [Nat.add_zero] at c0
    go_upto_region 2 with fail
    go_region_held3 (fun w' => w'.cell? ⟨w.heap.size, 1, none⟩ = some (.map (some b1)) ∧ w'.cell? ⟨tb, tf, none⟩ = some (.int .i64 z0))
      (go_keep)
      (first
        | (go_at_call 57; refine (addI_any b1 n z0 S1 _ ?_ Hok0.out (by omega)).mono ?_; (exact (hS.to (Below.refl _ _).drew).s1); rintro e w2 ⟨rfl, hs2, hg2⟩; have hS2 := (hS.to (Below.refl _ _).drew).add1 hs2 hg2; have hb2 := (hbx.below (Below.refl _ _).drew).grown hg2 hxb.out.2.1; obtain ⟨y0, y1, y2, y3, y4⟩ := id hb2; have d0 := HC.out w2 0 hpos hS2.below; rw [Hz0.out, Nat.add_zero] at d0))
    have H2 := hS2.same (T0 := S0) (T1 := fun x => S1 x ∨ firstP t x) (T2 := S2) (T3 := S3) (fun x => Iff.rfl) (fun x => by unfold firstP; rw [Hz0.out]; exact or_congr_right ⟨fun e => ⟨Hne.out, e⟩, fun e => e.2⟩) (fun x => Iff.rfl) (fun x => Iff.rfl)
    clear hS2 hs2 hg2 hS hbx x0 x1 x2 x3 x4 c0 cL d0
    have cL := HC.out w2 (len - 1) (by omega) H2.below
    rw [Hzl.out] at cL
    have wL : IntKind.i64.wrap ((len : Int) - 1) = ((len - 1 : Nat) : Int) := by rw [show ((len : Int) - 1) = ((len - 1 : Nat) : Int) by omega]; exact Go.IntWalk.i64_in _ ⟨by omega, by omega⟩
    have iL : (0 : Int) ≤ ((len - 1 : Nat) : Int) := by omega
    have jL : ((len - 1 : Nat) : Int) < (len : Int) := by omega
    have kL : len - 1 < len := by omega
    go_upto_region 3 with fail
    go_region_held3 (fun w' => w'.cell? ⟨w.heap.size, 2, none⟩ = some (.map (some b2)) ∧ w'.cell? ⟨tb, tf + (len - 1), none⟩ = some (.int .i64 zl))
      (go_keep)
      (first
        | (go_at_call 57; refine (addI_any b2 (n + 1) zl S2 _ ?_ Hokl.out (by omega)).mono ?_; (exact (H2.to (Below.refl _ _).drew).s2); rintro e w3 ⟨rfl, hs3, hg3⟩; have hS3 := (H2.to (Below.refl _ _).drew).add2 hs3 hg3; have hb3 := (hb2.below (Below.refl _ _).drew).grown hg3 hxb.out.2.2.1; obtain ⟨z0', z1, z2, z3, z4⟩ := id hb3; have dL := HC.out w3 (len - 1) (by omega) hS3.below; rw [Hzl.out] at dL))
    have H3 := (hS3.same (T0 := fun x => S0 x ∨ x ∈ t.take 0) (T1 := fun x => S1 x ∨ firstP t x) (T2 := fun x => S2 x ∨ lastP t x) (T3 := fun p => S3 p ∨ behP t 0 p) (fun x => by simp) (fun x => Iff.rfl)
      (fun x => by unfold lastP; rw [Hlen.out, Hzl.out]; exact or_congr_right ⟨fun e => ⟨Hne.out, e⟩, fun e => e.2⟩) (fun x => by unfold behP; simp)).mono (n' := n + 2 + 2 * 0) (by omega)
    clear hS3 hs3 hg3 H2 hb2 y0 y1 y2 y3 y4 z0' z1 z2 z3 z4 cL dL wL iL jL kL Hok0 Hokl Hz0 Hzl i0
    obtain ⟨xb, HX⟩ : ∃ x, Hid (w.heap.size = x) := ⟨_, rfl⟩
    rw [HX.out] at hb3 hxb ⊢
    go_wp2_with fail
    go_loopg [26] len (fun gk i' wr => ∃ k : Nat, k + gk = len ∧ i' = .int .i64 (k : Int) ∧ SeenAt w0 wq wr b0 b1 b2 b3 (n + 2 + 2 * k) (fun x => S0 x ∨ x ∈ t.take k) (fun x => S1 x ∨ firstP t x) (fun x => S2 x ∨ lastP t x) (fun p => S3 p ∨ behP t k p) ∧
      Box4 wr xb (.map (some b0)) (.map (some b1)) (.map (some b2)) (.map (some b3)))
    case atStart => exact ⟨0, by omega, rfl, H3, hb3⟩
    case round =>
      clear H3 hb3
      obtain ⟨k, hkg, rfl, hS, hb⟩ := hrel
      by_cases hk : k < len
      · have c2 := HC.out wr k hk hS.below
        obtain ⟨z, HZ⟩ : ∃ z, Hid (nth t k = z) := ⟨_, rfl⟩
        have Hz : Hid (okI z) := by show okI _; rw [← HZ.out]; exact Ht.out k hk
        rw [HZ.out] at c2
        obtain ⟨x0, x1, x2, x3, x4⟩ := id hb
        have HT : Hid (∀ x, ((S0 x ∨ x ∈ t.take k) ∨ x = z) ↔ (S0 x ∨ x ∈ t.take (k + 1))) := fun x => by
          rw [take_succ_nth (by rw [Hlen.out]; exact hk), List.mem_append, List.mem_singleton, HZ.out, or_assoc]
        by_cases hk0 : k = 0
        · subst hk0
          rw [Nat.add_zero] at c2
          go_wp2_with (go_at_call 57; refine (addI_any b0 (n + 2 + 2 * 0) z (fun x => S0 x ∨ x ∈ t.take 0) wr ?_ Hz.out (by omega)).mono ?_; (exact hS.s0); rintro e w4 ⟨rfl, hs4, hg4⟩)
          have hS4 := ((hS.add0 hs4 hg4).same (T0 := fun x => S0 x ∨ x ∈ t.take (0 + 1)) (T1 := fun x => S1 x ∨ firstP t x) (T2 := fun x => S2 x ∨ lastP t x) (T3 := fun p => S3 p ∨ behP t (0 + 1) p) HT.out (fun x => Iff.rfl) (fun x => Iff.rfl) (fun x => by rw [behP_succ]; simp)).mono (n' := n + 2 + 2 * (0 + 1)) (by omega)
          have hb4 := hb.grown hg4 hxb.out.1
          clear hS hb hs4 hg4 x0 x1 x2 x3 x4 c2
          go_wp2
          go_roundg (gk - 1)
          case measure => omega
          case rel => exact ⟨0 + 1, by omega, by go_num, hS4, hb4⟩
        · have i0 : (0 : Int) < (k : Int) := by omega
          go_upto_region 9 with (go_at_call 57; refine (addI_any b0 (n + 2 + 2 * k) z (fun x => S0 x ∨ x ∈ t.take k) wr ?_ Hz.out (by omega)).mono ?_; (exact hS.s0); rintro e w4 ⟨rfl, hs4, hg4⟩)
          have hS4 := (hS.add0 hs4 hg4).same (T0 := fun x => S0 x ∨ x ∈ t.take (k + 1)) (T1 := fun x => S1 x ∨ firstP t x) (T2 := fun x => S2 x ∨ lastP t x) (T3 := fun p => S3 p ∨ behP t k p) HT.out (fun x => Iff.rfl) (fun x => Iff.rfl) (fun x => Iff.rfl)
          have hb4 := hb.grown hg4 hxb.out.1
          clear hS hb hs4 hg4 x0 x1 x2 x3 x4 c2
          have c2 := HC.out w4 (k - 1) (by omega) hS4.below
          obtain ⟨y, HY⟩ : ∃ y, Hid (nth t (k - 1) = y) := ⟨_, rfl⟩
          have Hy : Hid (okI y) := by show okI _; rw [← HY.out]; exact Ht.out (k - 1) (by omega)
          rw [HY.out] at c2
          have wL : IntKind.i64.wrap ((k : Int) - 1) = ((k - 1 : Nat) : Int) := by rw [show ((k : Int) - 1) = ((k - 1 : Nat) : Int) by omega]; exact Go.IntWalk.i64_in _ ⟨by omega, by omega⟩
          have iL : (0 : Int) ≤ ((k - 1 : Nat) : Int) := by omega
          have jL : ((k - 1 : Nat) : Int) < (len : Int) := by omega
          have kL : k - 1 < len := by omega
          obtain ⟨x0, x1, x2, x3, x4⟩ := id hb4
          have HU : Hid (∀ p, ((S3 p ∨ behP t k p) ∨ p = (y, z)) ↔ (S3 p ∨ behP t (k + 1) p)) := fun p => by
            rw [behP_succ, HY.out, HZ.out, or_assoc]
            exact or_congr_right (or_congr_right ⟨fun e => ⟨by omega, e⟩, fun e => e.2⟩)
          go_region_held3 (fun w' => w'.cell? ⟨xb, 3, none⟩ = some (.map (some b3)) ∧ w'.cell? ⟨tb, tf + (k - 1), none⟩ = some (.int .i64 y))
            (go_keep)
            (first
              | (go_at_call 58; refine (addP_any b3 (n + 2 + 2 * k + 1) (y, z) (fun p => S3 p ∨ behP t k p) _ ?_ ⟨Hy.out, Hz.out⟩ (by omega)).mono ?_; (exact (hS4.to (Below.refl _ _).drew).s3); rintro e w5 ⟨rfl, hs5, hg5⟩; have hS5 := (hS4.to (Below.refl _ _).drew).add3 hs5 hg5; have hb5 := (hb4.below (Below.refl _ _).drew).grown hg5 hxb.out.2.2.2; obtain ⟨v0, v1, v2, v3, v4⟩ := id hb5; have d2 := HC.out w5 (k - 1) (by omega) hS5.below; rw [HY.out] at d2))
          have hS6 := (hS5.same (T0 := fun x => S0 x ∨ x ∈ t.take (k + 1)) (T1 := fun x => S1 x ∨ firstP t x) (T2 := fun x => S2 x ∨ lastP t x) (T3 := fun p => S3 p ∨ behP t (k + 1) p) (fun x => Iff.rfl) (fun x => Iff.rfl) (fun x => Iff.rfl) HU.out).mono (n' := n + 2 + 2 * (k + 1)) (by omega)
          clear hS5 hs5 hg5 hS4 hb4 x0 x1 x2 x3 x4 c2 v0 v1 v2 v3 v4 d2 wL iL jL kL
          go_wp2
          go_roundg (gk - 1)
          case measure => omega
          case rel => exact ⟨k + 1, by omega, by go_num, hS6, hb5⟩
      · obtain rfl : k = len := by omega
        have hS' := (hS.same (T0 := fun x => S0 x ∨ x ∈ t) (T1 := fun x => S1 x ∨ firstP t x) (T2 := fun x => S2 x ∨ lastP t x) (T3 := fun p => S3 p ∨ behP t t.length p) (fun x => by rw [List.take_of_length_le (by rw [Hlen.out]; exact Nat.le_refl _)]) (fun x => Iff.rfl) (fun x => Iff.rfl) (fun x => by rw [Hlen.out])).mono (n' := n + 200) (by omega)
        clear hS hb
        go_wp2
        go_end0
        exact ⟨rfl, hS'⟩

end Go.Proofs.Ytlknegihhcdhbaa

/- What all traces show, plainly. -/
namespace Go.Proofs.Ytlknegihhcdhbaa
set_option linter.unusedVariables false
set_option maxRecDepth 4000

def SomeT {α : Type} (f : List Int → α → Prop) (log : List (List Int)) (k : Nat) (x : α) : Prop := ∃ t, t ∈ log.take k ∧ f t x
theorem someT_zero {α : Type} (f : List Int → α → Prop) (log : List (List Int)) (x : α) : SomeT f log 0 x ↔ False := by
  unfold SomeT; simp
theorem someT_succ {α : Type} {f : List Int → α → Prop} {log : List (List Int)} {k : Nat} (hk : k < log.length) (x : α) : (SomeT f log k x ∨ f (log.getD k []) x) ↔ SomeT f log (k + 1) x := by
  unfold SomeT
  rw [List.take_add_one, List.getElem?_eq_getElem hk, List.getD_eq_getElem?_getD, List.getElem?_eq_getElem hk]
  constructor
  · rintro (⟨t, ht, hf⟩ | hf)
    · exact ⟨t, List.mem_append.2 (.inl ht), hf⟩
    · exact ⟨_, List.mem_append.2 (.inr (by simp)), hf⟩
  · rintro ⟨t, ht, hf⟩
    rcases List.mem_append.1 ht with ht | ht
    · exact .inl ⟨t, ht, hf⟩
    · have : t = log[k] := by simpa using ht
      exact .inr (by rw [this] at hf; exact hf)
theorem someT_all {α : Type} {f : List Int → α → Prop} {g : α → List Int → Bool} (hg : ∀ t x, f t x ↔ g x t = true) (log : List (List Int)) (x : α) : SomeT f log log.length x ↔ log.any (g x) = true := by
  unfold SomeT
  rw [List.take_of_length_le (Nat.le_refl _), List.any_eq_true]
  exact ⟨fun ⟨t, h1, h2⟩ => ⟨t, h1, (hg t x).1 h2⟩, fun ⟨t, h1, h2⟩ => ⟨t, h1, (hg t x).2 h2⟩⟩
theorem in_iff (t : List Int) (x : Int) : x ∈ t ↔ inT x t = true := by unfold inT; simp
theorem first_iff (t : List Int) (x : Int) : firstP t x ↔ firstT x t = true := by
  unfold firstP firstT
  cases t with
  | nil => simp
  | cons y r =>
    show _ ↔ (some y == some x) = true
    rw [beq_iff_eq, Option.some.injEq]
    exact ⟨fun h => h.2.symm, fun h => ⟨List.cons_ne_nil _ _, h.symm⟩⟩
theorem last_iff (t : List Int) (x : Int) : lastP t x ↔ lastT x t = true := by
  unfold lastP lastT
  by_cases h : t = []
  · subst h; simp
  · have hl : t.length - 1 < t.length := by have := List.length_pos_iff.2 h; omega
    rw [List.getLast?_eq_getElem?, List.getElem?_eq_getElem hl, nth_get hl]
    rw [beq_iff_eq, Option.some.injEq]
    exact ⟨fun q => q.2.symm, fun q => ⟨h, q.symm⟩⟩
theorem beh_iff (t : List Int) (p : Int × Int) : behP t t.length p ↔ behindT p t = true := by
  unfold behP behindT
  rw [List.any_eq_true]
  constructor
  · rintro ⟨j, h0, h1, h2, h3⟩
    exact ⟨j, List.mem_range.2 h1, by simp [h0, h2, h3]⟩
  · rintro ⟨j, h1, h2⟩
    simp only [Bool.and_eq_true, decide_eq_true_eq, beq_iff_eq] at h2
    exact ⟨j, h2.1.1, List.mem_range.1 h1, h2.1.2, h2.2⟩
theorem nth_mem {t : List Int} {k : Nat} (h : k < t.length) : nth t k ∈ t := by rw [nth_get h]; exact List.getElem_mem h
theorem firstP_mem {t : List Int} {x : Int} (h : firstP t x) : x ∈ t := by obtain ⟨h, rfl⟩ := h; exact nth_mem (List.length_pos_iff.2 h)
theorem lastP_mem {t : List Int} {x : Int} (h : lastP t x) : x ∈ t := by obtain ⟨h, rfl⟩ := h; exact nth_mem (by have := List.length_pos_iff.2 h; omega)
theorem behP_mem {t : List Int} {p : Int × Int} (h : behP t t.length p) : p.1 ∈ t ∧ p.2 ∈ t := by
  obtain ⟨j, h0, h1, h2, h3⟩ := h
  rw [← h2, ← h3]
  exact ⟨nth_mem (by omega), nth_mem h1⟩
theorem someT_label {f : List Int → Int → Prop} {g : Int → List Int → Bool} {log : List (List Int)} (hL : ∀ t ∈ log, ∀ x ∈ t, 1 ≤ x ∧ x ≤ 26) (hg : ∀ t x, f t x ↔ g x t = true) (hm : ∀ t x, f t x → x ∈ t) (x : Int) :
    SomeT f log log.length x ↔ (1 ≤ x ∧ x ≤ 26) ∧ log.any (g x) = true := by
  rw [← someT_all hg]
  refine ⟨fun h => ⟨?_, h⟩, fun h => h.2⟩
  obtain ⟨t, h1, h2⟩ := h
  exact hL t (List.mem_of_mem_take h1) x (hm t x h2)
theorem someT_pair {log : List (List Int)} (hL : ∀ t ∈ log, ∀ x ∈ t, 1 ≤ x ∧ x ≤ 26) (x : Int × Int) :
    SomeT (fun t p => behP t t.length p) log log.length x ↔ ((1 ≤ x.1 ∧ x.1 ≤ 26) ∧ 1 ≤ x.2 ∧ x.2 ≤ 26) ∧ log.any (behindT x) = true := by
  rw [← someT_all (f := fun t p => behP t t.length p) (g := behindT) beh_iff]
  refine ⟨fun h => ⟨?_, h⟩, fun h => h.2⟩
  obtain ⟨t, h1, h2⟩ := h
  have hm := behP_mem h2
  exact ⟨hL t (List.mem_of_mem_take h1) _ hm.1, hL t (List.mem_of_mem_take h1) _ hm.2⟩

end Go.Proofs.Ytlknegihhcdhbaa
