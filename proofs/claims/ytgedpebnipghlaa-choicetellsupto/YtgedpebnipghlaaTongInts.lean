/- A list of numbers at a place. -/
import Derived.Test.YtgedpebnipghlaaBase
namespace Go.Proofs.Ytgedpebnipghlaa
open Go.RowKit

theorem ints_atL {w : World} {a : Option Addr} {len cap : Nat} {xs : List Int} (h : Ints w (.slice a len cap) xs) {k : Nat} (hk : k < len) : ∃ b off, a = some ⟨b, off, none⟩ ∧ b < w.heap.size ∧ w.cell? ⟨b, off + k, none⟩ = some (.int .i64 (nth xs k)) := by
  obtain ⟨a', len', cap', e, hl, hm, hs, hr⟩ := h
  injection e with e1 e2 e3
  subst e1 e2 e3
  exact hr k (by omega)

end Go.Proofs.Ytgedpebnipghlaa
