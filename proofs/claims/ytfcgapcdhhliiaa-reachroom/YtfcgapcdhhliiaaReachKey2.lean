/- A mark's key, as the model reads it; what a map from marks to numbers holds. -/
import Derived.Test.YtfcgapcdhhliiaaReachKey
import Derived.Test.YtfcgapcdhhliiaaReachBase
import Derived.Test.YtfcgapcdhhliiaaNets
namespace Go.Proofs.Ytfcgapcdhhliiaa
open Go.RowKit Go.Maps Go.WideMaps
set_option linter.unusedVariables false

theorem mapM_all {α β : Type} {f : α → Option β} {g : α → β} : ∀ (L : List α), (∀ x ∈ L, f x = some (g x)) → L.mapM f = some (L.map g)
  | [], _ => rfl
  | x :: r, h => by rw [List.mapM_cons, h x (by simp), mapM_all r fun y hy => h y (by simp [hy])]; rfl

theorem flatten_single {α β : Type} (f : α → β) (l : List α) : (l.map fun i => [f i]).flatten = l.map f := by
  induction l with
  | nil => rfl
  | cons x r ih => simp [ih]

theorem key_type : ArrKey Try.prog 56 3 16 := ⟨Try.underlying56, by kernel_rfl, by kernel_rfl, by kernel_rfl⟩
theorem key_law : Keyed Try.prog 56 := Keyed.of_law key_type.law

/-- A number that a word holds. -/
def inWord (z : Int) : Prop := -9223372036854775808 ≤ z ∧ z ≤ 9223372036854775807

theorem wf_word {z : Int} (h : (Lit.int .i64 z).wf = true) : inWord z := by
  simp [Lit.wf, IntKind.min, IntKind.max, IntKind.signed, IntKind.bits] at h
  unfold inWord
  omega

/-- What a mark's key is. -/
def keyLit (xs : List Int) : Lit := .string (keyBytes ((padL xs).map (Lit.int .i64)))

theorem keyOf_pad (xs : List Int) (h : ∀ z ∈ xs, inWord z) : keyOf Try.prog 56 (.agg (padV xs).toArray) = some (keyLit xs) := by
  have hw : ∀ j, (Lit.int .i64 (nth xs j)).wf = true := by
    intro j
    apply WalkArith.wf_i64
    unfold nth
    rcases Nat.lt_or_ge j xs.length with hj | hj
    · simp only [List.getD, List.getElem?_eq_getElem hj, Option.getD_some]
      have := h _ (List.getElem_mem hj)
      unfold inWord at this
      omega
    · simp [List.getD, List.getElem?_eq_none hj]
  have A := key_type
  obtain ⟨m, hm⟩ : ∃ m, Try.prog.types.size = m + 1 := ⟨Try.prog.types.size - 1, by have : 0 < Try.prog.types.size := of_decide_eq_true (by kernel_rfl); omega⟩
  have hkt := A.keyType ⟨m, hm⟩
  have he := Try.underlying3
  unfold keyOf
  simp only [A.hu]
  rw [if_pos (by simp [hkt, Value.formed, A.hu, A.size, padV, padL]), hm]
  unfold Program.keyLits
  simp only [A.hu, Value.cells]
  rw [if_pos (by rw [A.size]; simp [padV, padL])]
  have e : ((List.range 16).mapM fun i => Try.prog.keyLits (m + 1) 3 (((padV xs).toArray.toList.drop (i * Try.prog.cellsOf 3)).take (Try.prog.cellsOf 3))) = some ((List.range 16).map fun i => [Lit.int .i64 (nth xs i)]) := by
    apply mapM_all
    intro i hi
    have hi16 : i < 16 := by simpa using hi
    rw [A.one]
    have e1 : ((padV xs).toArray.toList.drop (i * 1)).take 1 = [Value.int .i64 (nth xs i)] := by
      have hl : (padV xs).length = 16 := by simp [padV, padL]
      rw [List.drop_eq_getElem_cons (by simp [hl]; omega)]
      simp [padV, padL]
    rw [e1]
    unfold Program.keyLits
    simp [he, hw]
  rw [e]
  simp only [Option.map_some, keyLit, padL, List.map_map, flatten_single]
  rfl

theorem keyLit_inj {xs ys : List Int} (hx : ∀ z ∈ xs, inWord z) (hy : ∀ z ∈ ys, inWord z) (hl : xs.length = ys.length) (h16 : xs.length ≤ 16) (e : keyLit xs = keyLit ys) : xs = ys := by
  have h1 := keyOf_pad xs hx
  have h2 := keyOf_pad ys hy
  rw [← e] at h2
  have h3 := key_law.inj h1 h2
  injection h3 with h3
  have h4 : padV xs = padV ys := by simpa using h3
  apply eq_of_nth xs ys hl
  intro j hj
  have h5 : (padV xs)[j]? = (padV ys)[j]? := by rw [h4]
  have hj16 : j < 16 := by omega
  simpa [padV, padL, hj16] using h5

theorem right_word {xs : List Int} (h : rightL xs = true) : ∀ z ∈ xs, inWord z := by
  intro z hz
  obtain ⟨j, hj, e⟩ := List.getElem_of_mem hz
  have := okTok_nth h j
  have e2 : nth xs j = z := by simp [nth, List.getD, List.getElem?_eq_getElem hj, e]
  rw [e2] at this
  unfold inWord
  omega

/-- What the map from marks to numbers says, of marks of P places. -/
structure Says (P : Nat) (ms : List (List Int)) (D : DataW Unit) : Prop where
  yes : ∀ x g, x.length = P → (∀ z ∈ x, inWord z) → findM ms x = some g → has D (keyLit x) = true ∧ D.atKey (keyLit x) (.lit (.int .i64 0)) = .lit (.int .i64 (g : Int))
  no : ∀ x, x.length = P → (∀ z ∈ x, inWord z) → findM ms x = none → has D (keyLit x) = false

theorem says_nil (P : Nat) : Says P [] (.map []) := ⟨fun x g _ _ h => by simp [findM] at h, fun x _ _ _ => rfl⟩

theorem findM_append {ms : List (List Int)} {x z : List Int} : findM (ms ++ [z]) x = match findM ms x with | some g => some g | none => if z = x then some ms.length else none := by
  unfold findM
  rw [List.findIdx?_append]
  cases h : ms.findIdx? (· == x) with
  | some g => rfl
  | none =>
    by_cases e : z = x
    · subst e; simp [List.findIdx?_cons]
    · have e2 : (z == x) = false := by simpa using e
      simp [List.findIdx?_cons, e]

theorem Says.put {P : Nat} {ms : List (List Int)} {D : DataW Unit} (h : Says P ms D) (hP : P ≤ 16) (hD : IsMap D) {z : List Int} (hz : z.length = P) (hw : ∀ y ∈ z, inWord y) (hn : findM ms z = none) :
    Says P (ms ++ [z]) (D.put (keyLit z) (.lit (.int .i64 (ms.length : Int)))) := by
  have hk : WideAt.IsKeyLit (keyLit z) := trivial
  refine ⟨fun x g hx hwx hf => ?_, fun x hx hwx hf => ?_⟩
  · rw [findM_append] at hf
    by_cases e : z = x
    · subst e
      rw [hn] at hf
      simp at hf
      subst hf
      exact ⟨has_put_same hD hk _, atKey_put_same hD hk _ _⟩
    · have hne : keyLit x ≠ keyLit z := fun q => e (keyLit_inj hw hwx (by omega) (by omega) q.symm)
      cases hq : findM ms x with
      | none => rw [hq] at hf; simp [e] at hf
      | some g' =>
        rw [hq] at hf
        injection hf with hf
        subst hf
        rw [has_put_other hne, atKey_put_other hne]
        exact h.yes x g' hx hwx hq
  · rw [findM_append] at hf
    by_cases e : z = x
    · subst e; rw [hn] at hf; simp at hf
    · have hne : keyLit x ≠ keyLit z := fun q => e (keyLit_inj hw hwx (by omega) (by omega) q.symm)
      cases hq : findM ms x with
      | some g' => rw [hq] at hf; simp at hf
      | none => rw [has_put_other hne]; exact h.no x hx hwx hq

end Go.Proofs.Ytfcgapcdhhliiaa
