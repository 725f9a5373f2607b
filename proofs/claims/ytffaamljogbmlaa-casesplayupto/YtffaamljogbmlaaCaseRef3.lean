/- The document's own answers for cases: one thing done. -/
import Derived.Test.YtffaamljogbmlaaCaseRef31
import Derived.Test.YtffaamljogbmlaaCaseRef32
import Derived.Test.YtffaamljogbmlaaCaseRef33
import Derived.Test.YtffaamljogbmlaaCaseRef34
namespace Go.Proofs.Ytffaamljogbmlaa

theorem pdo_own (v u : Value) (n : NetL) (c : CaseL) (kd t : Int) (w : World) (hv : Net w v n) (hu : CaseV w u c) (hsm : SmallNet n) :
    Calls Try.prog 11 #[v, u, .agg #[.int .i64 kd, .int .i64 t]] w fun e w' => GivesCF w (doC n c kd t) e w' := by
  by_cases h1 : kd = 1
  · exact pdo_kind1 v u n c kd t w hv hu hsm (fun j hj => by simp at hj; omega)
  by_cases h2 : kd = 2
  · exact pdo_kind2 v u n c kd t w hv hu hsm (fun j hj => by simp at hj; omega)
  by_cases h3 : kd = 3
  · exact pdo_kind3 v u n c kd t w hv hu hsm (fun j hj => by simp at hj; omega)
  · exact pdo_kind4 v u n c kd t w hv hu hsm (fun j hj => by simp at hj; omega)

theorem pdo_any (v u : Value) (n : NetL) (c : CaseL) (kd t : Int) (w : World) (hv : Net w v n) (hu : CaseV w u c) (hsm : SmallNet n) :
    Calls Try.prog 11 #[v, u, .agg #[.int .i64 kd, .int .i64 t]] w fun e w' => GivesC w (doC n c kd t) e w' := (pdo_own v u n c kd t w hv hu hsm).mono fun _ _ h => h.gives

end Go.Proofs.Ytffaamljogbmlaa
