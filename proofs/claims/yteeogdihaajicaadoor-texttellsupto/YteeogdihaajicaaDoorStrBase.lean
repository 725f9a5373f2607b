/- Strings as lists of bytes. -/
import Derived.Test.YteeogdihaajicaaDoorTextSpec
import Derived.Test.YteeogdihaajicaaDoorStrLay1
namespace Go.Proofs.YteeogdihaajicaaDoor
open Go.RowKit
set_option linter.unusedVariables false
set_option maxRecDepth 4000

def bs (l : Bytes) : ByteArray := ⟨l.toArray⟩
theorem bs_list (l : Bytes) : (bs l).data.toList = l := rfl
theorem bs_size (l : Bytes) : (bs l).size = l.length := by show (l.toArray).size = _; simp
theorem bs_append (a b : Bytes) : bs a ++ bs b = bs (a ++ b) := by
  apply ByteArray.ext
  rw [ByteArray.data_append]
  show a.toArray ++ b.toArray = (a ++ b).toArray
  simp
theorem bs_eq {a b : Bytes} : bs a = bs b ↔ a = b := by
  constructor
  · intro h
    rw [← bs_list a, h, bs_list]
  · intro h; rw [h]
theorem bs_of (s : ByteArray) : bs s.data.toList = s := rfl

theorem hideEx (l : Bytes) : ∃ z, Hid (l = z) := ⟨l, rfl⟩
/-- Two texts, one behind the other. -/
theorem bs_add {a b : Bytes} (h : a.length + b.length ≤ 9223372036854775807) (w : World) : (Op.stringOp .add (bs a) (bs b)).run Tryd.prog w = .ok (.string (bs (a ++ b))) w := by
  rw [run_string_add_sum w (bs a) (bs b) (by rw [bs_size, bs_size]; exact h), bs_append]
theorem bs_add1 {a b : Bytes} {s : ByteArray} (hs : bs b = s) (h : a.length + b.length ≤ 9223372036854775807) (w : World) : (Op.stringOp .add (bs a) s).run Tryd.prog w = .ok (.string (bs (a ++ b))) w := by
  subst hs; exact bs_add h w
theorem bs_add2 {a b : Bytes} {s : ByteArray} (hs : bs a = s) (h : a.length + b.length ≤ 9223372036854775807) (w : World) : (Op.stringOp .add s (bs b)).run Tryd.prog w = .ok (.string (bs (a ++ b))) w := by
  subst hs; exact bs_add h w
theorem bs_beq (a b : Bytes) : ((bs a).toList == (bs b).toList) = (a == b) := by rw [Lib.toList_data, Lib.toList_data, bs_list, bs_list]
theorem bs_yes {a b : Bytes} (h : a = b) : ((bs a).toList == (bs b).toList) = true := by rw [bs_beq, beq_iff_eq]; exact h
theorem bs_no {a b : Bytes} (h : a ≠ b) : ((bs a).toList == (bs b).toList) = false := by rw [bs_beq, beq_eq_false_iff_ne]; exact h

theorem bs_yesL {a b : Bytes} (h : a = b) : ((bs a).toList == b) = true := by rw [Lib.toList_data, bs_list, beq_iff_eq]; exact h
theorem bs_noL {a b : Bytes} (h : a ≠ b) : ((bs a).toList == b) = false := by rw [Lib.toList_data, bs_list, beq_eq_false_iff_ne]; exact h
theorem bs_isE (a : Bytes) : (bs a).toList.isEmpty = a.isEmpty := by rw [Lib.toList_data, bs_list]
theorem bs_nil {a : Bytes} (h : a = []) : (bs a).toList.isEmpty = true := by rw [bs_isE, h]; rfl
theorem bs_nonnil {a : Bytes} (h : a ≠ []) : (bs a).toList.isEmpty = false := by rw [bs_isE]; cases a with
  | nil => exact absurd rfl h
  | cons x y => rfl

theorem ints_row {w : World} {a : Option Addr} {l c : Nat} {xs : List Int} (h : Ints w (.slice a l c) xs) : Row w a xs := by
  obtain ⟨a', l', c', e, _, _, _, hr⟩ := h
  injection e with e1 e2 e3
  subst e1
  exact hr

/-- The library's variable MaxLen holds a number. -/
def VarM (w : World) : Prop := 0 < w.heap.size ∧ ∃ m : Int, w.cell? ⟨0, 0, none⟩ = some (.int .i64 m)
theorem VarM.below {w w' : World} (h : VarM w) (hb : Below w.heap.size w w') : VarM w' := by
  obtain ⟨h0, m, hm⟩ := h
  exact ⟨Nat.lt_of_lt_of_le h0 hb.size, m, (hb.cell (p := ⟨0, 0, none⟩) h0).trans hm⟩

theorem cut_any (a b : Bytes) (sep : ByteArray) (w : World) (hb : bs b = sep) (hv : VarM w) (ha : a.length < 4294967281) :
    Calls Tryd.prog 21 #[.string (bs a), .string sep] w fun e w' => e = .returned (.tuple #[.string (bs (Lib.cut a b).1), .string (bs (Lib.cut a b).2.1), .bool (Lib.cut a b).2.2]) ∧ Below w.heap.size w w' := by
  subst hb
  obtain ⟨_, m, hm⟩ := hv
  refine (Any.strings_Cut (ρ := lays145_ren) lays145 (bs a) (bs b) m w (by rw [bs_size]; exact ha) hm).mono ?_
  rintro e w' ⟨rfl, n, rfl⟩
  exact ⟨rfl, below_drewN (Below.refl _ _) n⟩
theorem cutPrefix_any (a b : Bytes) (sep : ByteArray) (w : World) (hb : bs b = sep) :
    Calls Tryd.prog 42 #[.string (bs a), .string sep] w fun e w' => e = .returned (.tuple #[.string (bs (Lib.trimPrefix a b)), .bool (Lib.hasPrefix a b)]) ∧ w' = w := by
  subst hb
  exact Any.strings_CutPrefix (ρ := lays103_ren) lays103 (bs a) (bs b) w
theorem strIndex_any (a b : Bytes) (s : ByteArray) (w : World) (hb : bs a = s) (hv : VarM w) (ha : a.length < 4294967281) :
    Calls Tryd.prog 34 #[.string s, .string (bs b)] w fun e w' => e = .returned (.int .i64 (Lib.index a b)) ∧ w' = w := by
  subst hb
  obtain ⟨_, m, hm⟩ := hv
  exact Any.strings_Index (ρ := lays143_ren) lays143 (bs a) (bs b) m w (by rw [bs_size]; exact ha) hm
theorem itoa_small (i : Int) (w : World) (h0 : 0 ≤ i) (hi : i < 100) :
    Calls Tryd.prog 17 #[.int .i64 i] w fun e w' => e = .returned (.string (bs (Lib.itoa i))) ∧ w' = w := by
  obtain ⟨n, rfl⟩ : ∃ n : Nat, i = n := ⟨i.toNat, by omega⟩
  rw [itoa_nat]
  exact Any.strconv_Itoa_small (ρ := lays171_ren) lays171 n (by omega) w

end Go.Proofs.YteeogdihaajicaaDoor
