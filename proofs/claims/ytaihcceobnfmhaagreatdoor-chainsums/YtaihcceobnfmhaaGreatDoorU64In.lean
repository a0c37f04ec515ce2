/-
  A uint64 that came in, as a natural number.
-/
import Derived.Test.YtaihcceobnfmhaaGreatDoorSentX
import Derived.Test.YtaihcceobnfmhaaGreatDoorAidX
namespace Go.Proofs.YtaihcceobnfmhaaGreatDoor

theorem u64_nat {x : Int} (h : (Lit.int .u64 x).wf = true) : ∃ s : Nat, x = s ∧ s < W64 := by
  have h' : 0 ≤ x ∧ x ≤ 18446744073709551615 := by
    simpa [Lit.wf, IntKind.min, IntKind.max, IntKind.signed, IntKind.bits] using h
  exact ⟨x.toNat, by omega, by show x.toNat < 18446744073709551616; omega⟩
end Go.Proofs.YtaihcceobnfmhaaGreatDoor
