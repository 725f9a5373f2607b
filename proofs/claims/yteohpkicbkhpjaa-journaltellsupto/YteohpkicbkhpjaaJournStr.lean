/- The text of some bytes. -/
import Derived.Test.YteohpkicbkhpjaaJournLaw
import Derived.Laws.BytesString
import Derived.Laws.Cells
namespace Go.Proofs.Yteohpkicbkhpjaa
open Go.RowKit
set_option linter.unusedVariables false
set_option linter.unusedSimpArgs false
set_option maxRecDepth 4000

/-- The text of some bytes. -/
def strJ (xs : List Int) : ByteArray := xs.foldl (fun r n => r.push (UInt8.ofNat n.toNat)) ByteArray.empty
theorem conv_bytes (w : World) (a : Option Addr) (cap : Nat) (xs : List Int) (h : BytesV w (.slice a xs.length cap) xs) : (convert 24 9 (.slice a xs.length cap)).run Try.prog w = .ok (.string (strJ xs)) w := by
  rw [run_convert_bytes_string w 24 9 5 a _ cap Try.underlying24 Try.underlying5 Try.underlying9]
  obtain ⟨a', len', cap', e, hl, hm, hs, hy, hr⟩ := h
  injection e with e1 e2 e3
  subst e1 e3
  cases a with
  | none =>
    have h0 : xs = [] := by
      cases xs with
      | nil => rfl
      | cons x r => obtain ⟨b, off, e, _⟩ := hr 0 (by simp); cases e
    subst h0
    rfl
  | some ad =>
    have hl2 := run_loadCells_list (P := Try.prog) w ad (xs.map (Value.int .u8)) (fun j u hj => by
      by_cases hjl : j < xs.length
      · obtain ⟨b, off, e, _, hc⟩ := hr j hjl
        injection e with e
        subst e
        rw [addr_add, hc]
        simp [nth, List.getD, List.getElem?_eq_getElem hjl] at hj ⊢
        exact hj
      · rw [List.getElem?_eq_none (by simp; omega)] at hj; cases hj)
    rw [List.length_map] at hl2
    exact run_bytesToString w ad xs.length cap xs hl2

end Go.Proofs.Yteohpkicbkhpjaa
