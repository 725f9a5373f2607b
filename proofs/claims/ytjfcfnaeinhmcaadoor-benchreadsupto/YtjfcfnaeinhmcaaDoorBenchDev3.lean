/- Package bench: the letters of a line. -/
import Derived.Test.YtjfcfnaeinhmcaaDoorBenchStr
import Derived.Test.YtjfcfnaeinhmcaaDoorRowAt
import Derived.Test.YtjfcfnaeinhmcaaDoorListsOut
import Derived.Lib.ItoaWalk
namespace Go.Proofs.YtjfcfnaeinhmcaaDoor
open Go.RowKit
set_option linter.unusedVariables false
set_option linter.unusedSimpArgs false
set_option maxRecDepth 4000

theorem str_at {s : Bytes} {j : Nat} {x : UInt8} (h : s[j]? = some x) (w : World) : (Instr.index 9 (.string (bs s)) (.int .i64 (j : Int))).run Tryd.prog w = .ok (.int .u8 (x.toNat : Int)) w := by
  have hj : j < s.length := (List.getElem?_eq_some_iff.1 h).1
  rw [run_index_string w 9 (bs s) .i64 _ Tryd.underlying9, dif_pos ⟨by omega, by rw [bs_size]; omega⟩]
  have e : ((j : Int)).toNat = j := by omega
  simp only [e]
  rw [Lib.getD_at (bs s) j (by rw [bs_size]; exact hj), bs_list, List.getD_eq_getElem?_getD, h]
  rfl

/-- The numbers of the first k letters; behind them none. -/
def upW (a : Bytes) (k j : Nat) : Int := if j < k then nth (a.map valW) j else 0
theorem nth_val {a : Bytes} {k : Nat} {c : UInt8} (h : a[k]? = some c) : nth (a.map valW) k = valW c := by
  unfold nth
  rw [List.getD_eq_getElem?_getD, List.getElem?_map, h]
  rfl

set_option maxHeartbeats 4000000 in
theorem labels_any (a : Bytes) (hl : ∀ b ∈ a, isLet b) (ha : a.length ≤ 4294967280) (w : World) :
    Calls Tryd.prog 15 #[.string (bs a)] w fun e w' => ∃ r c, e = .returned (.slice r a.length c) ∧ On (fun k => w.heap.size ≤ k) w' (fun w'' => Ints w'' (.slice r a.length c) (a.map valW)) ∧ Below w.heap.size w w' := by
  have HL : Hid (∀ b ∈ a, isLet b) := hl
  clear hl
  have z1 : (bs a).size = a.length := bs_size a
  obtain ⟨n, Hn⟩ : ∃ z, Hid (a.length = z) := ⟨_, rfl⟩
  rw [Hn.out] at ha z1 ⊢
  obtain ⟨w1, hmk, hR⟩ := make_intsZ w n (n : Int) rfl (by omega)
  go_enter Tryd.func15, Tryd.ntmps15
  go_upto_region 3 with fail
  have HR : Hid (RowAt w.heap.size w w1 n (upW a 0)) := hR.same fun j _ => by simp [upW]
  clear hR hmk
  go_loopg [10] n (fun gk i wr => ∃ k : Nat, k + gk = n ∧ i = .int .i64 (k : Int) ∧ Hid (RowAt w.heap.size w wr n (upW a k)))
  case atStart => exact ⟨0, by omega, rfl, HR⟩
  case round =>
    clear HR
    obtain ⟨k, hkg, rfl, HR⟩ := hrel
    by_cases hk : k < n
    · obtain ⟨c, hc⟩ : ∃ x, a[k]? = some x := ⟨_, List.getElem?_eq_getElem (by rw [Hn.out]; exact hk)⟩
      have hlc := HL.out c (List.mem_of_getElem? hc)
      have hIx := fun w => str_at hc w
      have hv := nth_val hc
      have hb := fun w => indexLetter_any c hlc ⟨#[97, 98, 99, 100, 101, 102, 103, 104, 105, 106, 107, 108, 109, 110, 111, 112, 113, 114, 115, 116, 117, 118, 119, 120, 121, 122]⟩ rfl w
      obtain ⟨V, HV⟩ : ∃ z, Hid (valW c = z) := ⟨_, rfl⟩
      have hVr : 1 ≤ V ∧ V ≤ 26 := by have := HV.out; unfold valW at this; omega
      obtain ⟨N, HN⟩ : ∃ z, Hid (c.toNat = z) := ⟨_, rfl⟩
      rw [HV.out] at hv hb
      rw [HN.out] at hIx hb
      have c0 := HR.out.cells k hk
      have c1 := HR.out.frozen k hk
      have e1 : IntKind.i64.wrap (V - 1 + 1) = V := by rw [show V - 1 + 1 = V by omega]; exact Go.IntWalk.i64_in _ ⟨by omega, by omega⟩
      have R : Hid (RowAt w.heap.size w (wr.setCell ⟨w.heap.size, k, none⟩ (.int .i64 V)) n (upW a (k + 1))) := HR.out.put hk (by unfold upW; rw [if_pos (by omega)]; exact hv) fun j _ hj => by unfold upW; by_cases q : j < k <;> simp [q] <;> omega
      clear HR hc hv hlc
      go_wp2_with (go_at_call 28; refine (hb _).mono ?_; rintro e w' ⟨rfl, rfl⟩)
      go_roundg (gk - 1)
      case measure => omega
      case rel => exact ⟨k + 1, by omega, by go_num, R⟩
    · have ek : k = n := by omega
      subst ek
      have R1 : Hid (On (fun k => w.heap.size ≤ k) wr (fun w'' => Ints w'' (.slice (some ⟨w.heap.size, 0, none⟩) k k) (a.map valW))) := HR.out.on (by rw [List.length_map, Hn.out]) (fun j hj => by unfold upW; rw [if_pos hj]) (by omega) (Nat.le_refl _) (by omega)
      have R2 : Hid (Below w.heap.size w wr) := HR.out.below
      clear HR
      go_wp2
      go_ret
      exact ⟨_, _, rfl, R1.out, R2.out⟩

end Go.Proofs.YtjfcfnaeinhmcaaDoor
