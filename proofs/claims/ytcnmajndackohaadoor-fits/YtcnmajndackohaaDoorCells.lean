/-
  The cells of flows, as they lie in a row.
-/
import Derived.Test.YtcnmajndackohaaDoorWalkB
import Derived.Test.YtcnmajndackohaaDoorFlow
namespace Go.Proofs.YtcnmajndackohaaDoor
open Go.RowKit

/-- The cells of flows. -/
def fcells : List Fl → List Value
  | [] => []
  | f :: l => .int .i64 f.s :: .int .i64 f.p :: .int .i64 f.b :: .int .i64 f.r :: .int .i64 f.d :: fcells l
theorem fcells_length (l : List Fl) : (fcells l).length = l.length * 5 := by
  induction l with
  | nil => rfl
  | cons f l ih => simp only [fcells, List.length_cons, ih]; omega
theorem fcells_append (l m : List Fl) : fcells (l ++ m) = fcells l ++ fcells m := by
  induction l with
  | nil => rfl
  | cons f l ih => simp only [List.cons_append, fcells, ih]
theorem fcells_at (l : List Fl) : ∀ (k : Nat) (h : k < l.length), (fcells l)[k * 5]? = some (.int .i64 l[k].s) ∧ (fcells l)[k * 5 + 1]? = some (.int .i64 l[k].p) ∧ (fcells l)[k * 5 + 2]? = some (.int .i64 l[k].b) ∧ (fcells l)[k * 5 + 3]? = some (.int .i64 l[k].r) ∧ (fcells l)[k * 5 + 4]? = some (.int .i64 l[k].d) := by
  induction l with
  | nil => intro k h; exact absurd h (by simp)
  | cons f l ih =>
    intro k h
    cases k with
    | zero => exact ⟨rfl, rfl, rfl, rfl, rfl⟩
    | succ k =>
      have := ih k (by simpa using h)
      have e : (k + 1) * 5 = k * 5 + 5 := by omega
      rw [e]
      simpa [fcells] using this
theorem fcells_set (L : List Fl) (x : Fl) : ∀ k, k < L.length → fcells (L.set k x) = (((((fcells L).set (k * 5) (.int .i64 x.s)).set (k * 5 + 1) (.int .i64 x.p)).set (k * 5 + 2) (.int .i64 x.b)).set (k * 5 + 3) (.int .i64 x.r)).set (k * 5 + 4) (.int .i64 x.d) := by
  induction L with
  | nil => intro k h; exact absurd h (by simp)
  | cons f L ih =>
    intro k h
    cases k with
    | zero => rfl
    | succ k =>
      have := ih k (by simpa using h)
      have e : (k + 1) * 5 = k * 5 + 5 := by omega
      rw [e]
      simp only [List.set_cons_succ, fcells, this]
end Go.Proofs.YtcnmajndackohaaDoor
