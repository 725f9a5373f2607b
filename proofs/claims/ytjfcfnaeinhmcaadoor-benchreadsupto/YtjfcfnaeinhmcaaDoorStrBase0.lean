/- Strings as lists of bytes. -/
import Derived.Test.YtjfcfnaeinhmcaaDoorTextSpec
import Derived.Test.YtjfcfnaeinhmcaaDoorOwn
namespace Go.Proofs.YtjfcfnaeinhmcaaDoor
open Go.RowKit
set_option linter.unusedVariables false
set_option maxRecDepth 4000

def bs (l : Bytes) : ByteArray := ⟨l.toArray⟩
theorem bs_list (l : Bytes) : (bs l).data.toList = l := rfl
theorem bs_size (l : Bytes) : (bs l).size = l.length := by show (l.toArray).size = _; simp
theorem bs_append (a b : Bytes) : bs a ++ bs b = bs (a ++ b) := by
  apply ByteArray.ext
  rw [ByteArray.data_append]
  show a.toArray ++ b.toArray = (a ++ b).toArray
  simp
theorem bs_eq {a b : Bytes} : bs a = bs b ↔ a = b := by
  constructor
  · intro h
    rw [← bs_list a, h, bs_list]
  · intro h; rw [h]
theorem bs_of (s : ByteArray) : bs s.data.toList = s := rfl

theorem hideEx (l : Bytes) : ∃ z, Hid (l = z) := ⟨l, rfl⟩
/-- Two texts, one behind the other. -/
theorem bs_add {a b : Bytes} (h : a.length + b.length ≤ 9223372036854775807) (w : World) : (Op.stringOp .add (bs a) (bs b)).run Tryd.prog w = .ok (.string (bs (a ++ b))) w := by
  rw [run_string_add_sum w (bs a) (bs b) (by rw [bs_size, bs_size]; exact h), bs_append]
theorem bs_add1 {a b : Bytes} {s : ByteArray} (hs : bs b = s) (h : a.length + b.length ≤ 9223372036854775807) (w : World) : (Op.stringOp .add (bs a) s).run Tryd.prog w = .ok (.string (bs (a ++ b))) w := by
  subst hs; exact bs_add h w
theorem bs_add2 {a b : Bytes} {s : ByteArray} (hs : bs a = s) (h : a.length + b.length ≤ 9223372036854775807) (w : World) : (Op.stringOp .add s (bs b)).run Tryd.prog w = .ok (.string (bs (a ++ b))) w := by
  subst hs; exact bs_add h w
theorem bs_beq (a b : Bytes) : ((bs a).toList == (bs b).toList) = (a == b) := by rw [Lib.toList_data, Lib.toList_data, bs_list, bs_list]
theorem bs_yes {a b : Bytes} (h : a = b) : ((bs a).toList == (bs b).toList) = true := by rw [bs_beq, beq_iff_eq]; exact h
theorem bs_no {a b : Bytes} (h : a ≠ b) : ((bs a).toList == (bs b).toList) = false := by rw [bs_beq, beq_eq_false_iff_ne]; exact h

theorem bs_yesL {a b : Bytes} (h : a = b) : ((bs a).toList == b) = true := by rw [Lib.toList_data, bs_list, beq_iff_eq]; exact h
theorem bs_noL {a b : Bytes} (h : a ≠ b) : ((bs a).toList == b) = false := by rw [Lib.toList_data, bs_list, beq_eq_false_iff_ne]; exact h
theorem bs_isE (a : Bytes) : (bs a).toList.isEmpty = a.isEmpty := by rw [Lib.toList_data, bs_list]
theorem bs_nil {a : Bytes} (h : a = []) : (bs a).toList.isEmpty = true := by rw [bs_isE, h]; rfl
theorem bs_nonnil {a : Bytes} (h : a ≠ []) : (bs a).toList.isEmpty = false := by rw [bs_isE]; cases a with
  | nil => exact absurd rfl h
  | cons x y => rfl

theorem ints_row {w : World} {a : Option Addr} {l c : Nat} {xs : List Int} (h : Ints w (.slice a l c) xs) : Row w a xs := by
  obtain ⟨a', l', c', e, _, _, _, hr⟩ := h
  injection e with e1 e2 e3
  subst e1
  exact hr

/-- The library's variable MaxLen holds a number. -/
def VarM (w : World) : Prop := 0 < w.heap.size ∧ ∃ m : Int, w.cell? ⟨0, 0, none⟩ = some (.int .i64 m)
theorem VarM.below {w w' : World} (h : VarM w) (hb : Below w.heap.size w w') : VarM w' := by
  obtain ⟨h0, m, hm⟩ := h
  exact ⟨Nat.lt_of_lt_of_le h0 hb.size, m, (hb.cell (p := ⟨0, 0, none⟩) h0).trans hm⟩

end Go.Proofs.YtjfcfnaeinhmcaaDoor
