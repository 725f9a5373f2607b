/- What functions of package strings answer: Cut, Join, TrimLeft, IndexByte. -/
import Derived.Test.YtjfcfnaeinhmcaaDoorBenchBase
import Derived.Test.YtjfcfnaeinhmcaaDoorStrBase0
import Derived.Test.YtjfcfnaeinhmcaaDoorCells
import Derived.Test.YtjfcfnaeinhmcaaDoorBenchLay
import Derived.Shelf.Strings.SlTrimAscii
namespace Go.Proofs.YtjfcfnaeinhmcaaDoor
open Go.RowKit
set_option linter.unusedVariables false
set_option maxRecDepth 4000

theorem cut_any (a b : Bytes) (sep : ByteArray) (w : World) (hb : bs b = sep) (hv : VarM w) (ha : a.length < 4294967281) :
    Calls Tryd.prog 13 #[.string (bs a), .string sep] w fun e w' => e = .returned (.tuple #[.string (bs (Lib.cut a b).1), .string (bs (Lib.cut a b).2.1), .bool (Lib.cut a b).2.2]) ∧ Below w.heap.size w w' := by
  subst hb
  obtain ⟨_, m, hm⟩ := hv
  refine (Any.strings_Cut (ρ := lays145_ren) lays145 (bs a) (bs b) m w (by rw [bs_size]; exact ha) hm).mono ?_
  rintro e w' ⟨rfl, n, rfl⟩
  exact ⟨rfl, below_drewN (Below.refl _ _) n⟩

abbrev strV (x : Bytes) : Value := .string (bs x)
theorem join_any (xs : List Bytes) (sep : Bytes) (t : ByteArray) (ht : bs sep = t) (v : Value) (w : World) (hv : CellsV w v 1 1000000 xs.length (xs.map strV)) (hn : xs ≠ [])
    (hlen : (Lib.join xs sep).length ≤ 140737488355328) :
    Calls Tryd.prog 29 #[v, .string t] w fun e w' => e = .returned (.string (bs (Lib.join xs sep))) ∧ Below w.heap.size w w' := by
  subst ht
  obtain ⟨a, cap, rfl, hl, hm, hs, h1, hr⟩ := hv
  have h0 : 0 < xs.length := List.length_pos_iff.2 hn
  obtain ⟨bk, off, rfl, hlt, _⟩ := hr 0 (strV xs[0]) (by rw [List.getElem?_map, List.getElem?_eq_getElem h0]; rfl)
  have e : (xs.map bs).map (·.data.toList) = xs := by
    rw [List.map_map]
    conv => rhs; rw [← List.map_id xs]
    exact List.map_congr_left fun x _ => bs_list x
  have q := Any.strings_Join (ρ := lays156_ren) lays156 Builder_Extra_156 bk off cap (xs.map bs) (bs sep) w ?_ hlt (by rw [List.length_map]; omega) (by rw [List.length_map]; exact hs.1) (by rw [e, bs_list]; exact hlen)
  · rw [List.length_map, e, bs_list] at q
    exact q
  · intro j x hj
    rw [List.getElem?_map] at hj
    obtain ⟨y, hy, rfl⟩ := Option.map_eq_some_iff.1 hj
    obtain ⟨b', o', q1, _, q3⟩ := hr j (strV y) (by rw [List.getElem?_map, hy]; rfl)
    injection q1 with q1
    injection q1 with q1 q2
    rw [q1, q2]
    exact q3
theorem trim_any (a : Bytes) (t : ByteArray) (ht : bs lettersL = t) (w : World) :
    Calls Tryd.prog 14 #[.string (bs a), .string t] w fun e w' => e = .returned (.string (bs (Lib.trimLeftS a lettersL))) ∧ Below w.heap.size w w' := by
  subst ht
  refine Any.strings_TrimLeft_laid (ρ := lays161_ren) lays161 (by kernel_rfl) (bs a) (bs lettersL) w (by decide) ?_
  intro j b hj
  have : b ∈ lettersL := List.mem_of_getElem? hj
  have h2 := letters_has b
  rw [List.contains_iff_mem.2 this] at h2
  have h3 : isLet b := of_decide_eq_true h2.symm
  omega
theorem indexLetter_any (c : UInt8) (hc : isLet c) (t : ByteArray) (ht : bs lettersL = t) (w : World) :
    Calls Tryd.prog 28 #[.string t, .int .u8 (c.toNat : Int)] w fun e w' => e = .returned (.int .i64 (valW c - 1)) ∧ w' = w := by
  subst ht
  refine (Any.strings_IndexByte (ρ := lays137_ren) lays137 (bs lettersL) (c.toNat : Int) w).mono ?_
  rintro e w' ⟨rfl, rfl⟩
  refine ⟨?_, rfl⟩
  have h1 : ((c.toNat : Int)).toNat.toUInt8 = c := by simp
  have h2 := letters_index hc
  rw [h1]
  show Ending.returned (.int .i64 (Lib.indexByte lettersL c)) = _
  rw [show Lib.indexByte lettersL c = valW c - 1 by omega]

end Go.Proofs.YtjfcfnaeinhmcaaDoor
