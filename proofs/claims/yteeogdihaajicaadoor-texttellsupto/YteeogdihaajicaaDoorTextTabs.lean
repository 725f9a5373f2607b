/- The library's table of powers and its two errors lie as the row's list says. -/
import Derived.Test.YteeogdihaajicaaDoorTextLaid
import Derived.Test.YteeogdihaajicaaDoorTextRef3
import Derived.LaidSub
namespace Go.Proofs.YteeogdihaajicaaDoor
open Go.RowKit
set_option linter.unusedVariables false
set_option maxRecDepth 4000

theorem gPow : Tryd.prog.globalNamed "internal/strconv.uint64pow10" = some 1 := by kernel_rfl
theorem gPowType : (Tryd.prog.globals[1]?).map (·.type) = some 113 := by kernel_rfl
theorem gSyn : Tryd.prog.globalNamed "strconv.ErrSyntax" = some 2 := by kernel_rfl
theorem gSynType : (Tryd.prog.globals[2]?).map (·.type) = some 70 := by kernel_rfl
theorem gRan : Tryd.prog.globalNamed "strconv.ErrRange" = some 3 := by kernel_rfl
theorem gRanType : (Tryd.prog.globals[3]?).map (·.type) = some 70 := by kernel_rfl
theorem cellsPow : Tryd.prog.cellsOf 113 = 20 := by kernel_rfl
theorem cellsU64 : Tryd.prog.cellsOf 97 = 1 := by kernel_rfl
theorem powData : (Rows.laid_internal_strconv_uint64pow10 : DataW Unit) = Lib.tabData .u64 Lib.pow10Tab := by kernel_rfl

theorem iface_of_trod {P : Program} {w : World} {t : TypeId} {ms : Array (String × TypeId)} {fuel : Nat} {cs : List Value} {n : String} {d : DataW Unit} {p : List MemPlace} (ht : P.underlying t = some (.interface ms))
    (h : DataW.trod (fun _ => ()) P w 0 (fun _ => true) false fuel t cs = some (.iface n d, p)) : ∃ u v, cs = [.iface u v] := by
  cases fuel with
  | zero => cases h
  | succ fuel =>
    unfold DataW.trod at h
    rw [ht] at h
    match cs, h with
    | [.iface u v], _ => exact ⟨u, v, rfl⟩
    | [], h => simp at h
    | a :: b :: r, h => simp at h
    | [.nilIface], h => simp at h
    | [.int _ _], h => simp at h
theorem err_of_laid {W : World} {name s : String} {g : Nat} {d : DataW Unit} (hg : Tryd.prog.globalNamed name = some g) (hty : (Tryd.prog.globals[g]?).map (·.type) = some 70)
    (h : laidMet Tryd.prog [(name, .iface s d)] W) : ∃ tp p, ∀ w', Below W.heap.size W w' → w'.cell? ⟨g, 0, none⟩ = some (.iface tp p) := by
  obtain ⟨ps, ⟨g', t', cs, fuel, p, q, hg', ht', hvar, hd, _, _⟩, _⟩ := h
  obtain rfl := Option.some.inj (hg.symm.trans hg')
  obtain rfl := Option.some.inj (hty.symm.trans ht')
  obtain ⟨u, v, e⟩ := iface_of_trod Tryd.underlying70 hd
  have hc := World.var?_cell hg hvar 0
  have e0 : cs[0]? = some (.iface u v) := by
    have := congrArg (·[0]?) e
    simpa using this
  rw [e0] at hc
  exact ⟨u, v, fun w' hb => by rw [hb.cell (World.block_lt_of_cell? W _ hc)]; exact hc⟩
theorem tabs_of_laid {W : World} (h : laidMetH Tryd.prog Rows.textTellsRow.laid W) : Tabs15 W.heap.size W := by
  have h : laidMet Tryd.prog Rows.textTellsRow.laid W := by
    have h0 := (laidMetH_iff.1 h).1
    rwa [show (Rows.textTellsRow.laid.filter fun x => x.2.handleName?.isNone) = Rows.textTellsRow.laid by kernel_rfl] at h0
  refine ⟨?_, ?_, ?_⟩
  · have h1 : laidMet Tryd.prog [("internal/strconv.uint64pow10", Rows.laid_internal_strconv_uint64pow10)] W := by
      have := h.filter (fun x => x.1 == "internal/strconv.uint64pow10")
      rwa [show (Rows.textTellsRow.laid.filter fun x => x.1 == "internal/strconv.uint64pow10") = [("internal/strconv.uint64pow10", Rows.laid_internal_strconv_uint64pow10)] by kernel_rfl] at this
    rw [powData] at h1
    exact Lib.tabBelow_of_tabIs (Lib.tabIs_of_head (rest := []) gPow gPowType Tryd.underlying113 Tryd.underlying97 cellsU64 cellsPow h1)
  · have h1 : laidMet Tryd.prog [("strconv.ErrSyntax", Rows.laid_strconv_ErrSyntax)] W := by
      have := h.filter (fun x => x.1 == "strconv.ErrSyntax")
      rwa [show (Rows.textTellsRow.laid.filter fun x => x.1 == "strconv.ErrSyntax") = [("strconv.ErrSyntax", Rows.laid_strconv_ErrSyntax)] by kernel_rfl] at this
    exact err_of_laid gSyn gSynType h1
  · have h1 : laidMet Tryd.prog [("strconv.ErrRange", Rows.laid_strconv_ErrRange)] W := by
      have := h.filter (fun x => x.1 == "strconv.ErrRange")
      rwa [show (Rows.textTellsRow.laid.filter fun x => x.1 == "strconv.ErrRange") = [("strconv.ErrRange", Rows.laid_strconv_ErrRange)] by kernel_rfl] at this
    exact err_of_laid gRan gRanType h1

end Go.Proofs.YteeogdihaajicaaDoor
