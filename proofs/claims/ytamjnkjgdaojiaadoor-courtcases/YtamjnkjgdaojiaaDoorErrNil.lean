/-
  An error's value, by its number: none, or one.
-/
import Derived.Test.YtamjnkjgdaojiaaDoorErrIs
namespace Go.Proofs.YtamjnkjgdaojiaaDoor

theorem ErrIs.nil {A : Nat → Addr} {e : Value} {c : Int} (h : ErrIs A e c) (hc : c = 0) : e = .nilIface := by
  rcases h with ⟨_, rfl⟩ | ⟨i, _, rfl, _⟩
  · rfl
  · omega
theorem ErrIs.err {A : Nat → Addr} {e : Value} {c : Int} (h : ErrIs A e c) (hc : c ≠ 0) : ∃ i, e = sent (A i) := by
  rcases h with ⟨g, _⟩ | ⟨i, _, _, rfl⟩
  · exact absurd g hc
  · exact ⟨i, rfl⟩
end Go.Proofs.YtamjnkjgdaojiaaDoor
