/-
  A row of cases, as it lies in memory.
-/
import Derived.Test.YtamjnkjgdaojiaaDoorCourtMath
import Derived.Test.YtamjnkjgdaojiaaDoorKeptP
namespace Go.Proofs.YtamjnkjgdaojiaaDoor
open Go.RowKit

def crow (L : List Cs) : List Value := match L with
  | [] => []
  | t :: l => .int .i64 t.1 :: .int .i64 t.2.1 :: .int .i64 t.2.2.1 :: .int .i64 t.2.2.2 :: crow l
theorem crow_len : ∀ L : List Cs, (crow L).length = L.length * 4
  | [] => rfl
  | _ :: l => by simp [crow, crow_len l]; omega
theorem crow_append (t : Cs) : ∀ L : List Cs, crow (L ++ [t]) = crow L ++ [.int .i64 t.1, .int .i64 t.2.1, .int .i64 t.2.2.1, .int .i64 t.2.2.2]
  | [] => rfl
  | _ :: l => by simp [crow, crow_append t l]
theorem crow_at : ∀ (L : List Cs) (i : Nat) (t : Cs), L[i]? = some t → (crow L)[i * 4]? = some (.int .i64 t.1) ∧ (crow L)[i * 4 + 1]? = some (.int .i64 t.2.1) ∧ (crow L)[i * 4 + 2]? = some (.int .i64 t.2.2.1) ∧ (crow L)[i * 4 + 3]? = some (.int .i64 t.2.2.2)
  | [], _, _, h => by simp at h
  | u :: l, 0, t, h => by
    have e : u = t := by simpa using h
    subst e
    exact ⟨rfl, rfl, rfl, rfl⟩
  | u :: l, i + 1, t, h => by
    have := crow_at l i t (by simpa using h)
    rw [show (i + 1) * 4 = i * 4 + 4 by omega]
    exact this
end Go.Proofs.YtamjnkjgdaojiaaDoor
