/-
  An error's value, by its number.
  What Code tells of an error, by its number.
  An error's value, by its number: none, or one.
-/
import Derived.Test.YtileplhjbnmgnabGreatDoorBases
import Derived.Test.YtileplhjbnmgnabGreatDoorCode
namespace Go.Proofs.YtileplhjbnmgnabGreatDoor

/-- an error's value, by its number -/
def ErrIs (A : Nat → Addr) (e : Value) (c : Int) : Prop := (c = 0 ∧ e = .nilIface) ∨ ∃ i : Nat, i < 10 ∧ c = i + 1 ∧ e = sent (A i)
end Go.Proofs.YtileplhjbnmgnabGreatDoor

namespace Go.Proofs.YtileplhjbnmgnabGreatDoor
open Go.RowKit

theorem ErrIs.tells {A : Nat → Addr} {e : Value} {c : Int} (h : ErrIs A e c) {w : World} (hL : Laid w A) : Tells w e c (-1) := by
  rcases h with ⟨rfl, rfl⟩ | ⟨i, hi, rfl, rfl⟩
  · exact tells_nil w
  · exact tells_sent hL i hi
end Go.Proofs.YtileplhjbnmgnabGreatDoor

namespace Go.Proofs.YtileplhjbnmgnabGreatDoor

theorem ErrIs.nil {A : Nat → Addr} {e : Value} {c : Int} (h : ErrIs A e c) (hc : c = 0) : e = .nilIface := by
  rcases h with ⟨_, rfl⟩ | ⟨i, _, rfl, _⟩
  · rfl
  · omega
theorem ErrIs.err {A : Nat → Addr} {e : Value} {c : Int} (h : ErrIs A e c) (hc : c ≠ 0) : ∃ i, e = sent (A i) := by
  rcases h with ⟨g, _⟩ | ⟨i, _, _, rfl⟩
  · exact absurd g hc
  · exact ⟨i, rfl⟩
end Go.Proofs.YtileplhjbnmgnabGreatDoor
