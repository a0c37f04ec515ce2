/-
  The first so many owners' together; the document's amounts.
-/
import Derived.Test.YtamjnkjgdaojiaaDoorBase
import Derived.Test.YtamjnkjgdaojiaaDoorPurseMath
namespace Go.Proofs.YtamjnkjgdaojiaaDoor
open Go.RowKit

def sumQ (x : Pu) : Nat → Int
  | 0 => 0
  | k + 1 => sumQ x k + x.s k
theorem sumQ_six (x : Pu) : sumQ x 6 = x.sum := by simp [sumQ, Pu.sum]
theorem sumQ_bd {x : Pu} (h : x.Ok) : ∀ k, k ≤ 6 → 0 ≤ sumQ x k ∧ sumQ x k ≤ x.sum
  | 0, _ => ⟨Int.le_refl _, h.sum0⟩
  | k + 1, hk => by
    have h0 := h.pos 0
    have h1 := h.pos 1
    have h2 := h.pos 2
    have h3 := h.pos 3
    have h4 := h.pos 4
    have h5 := h.pos 5
    have : k = 0 ∨ k = 1 ∨ k = 2 ∨ k = 3 ∨ k = 4 ∨ k = 5 := by omega
    rcases this with rfl | rfl | rfl | rfl | rfl | rfl <;> (simp [sumQ, Pu.sum]; omega)
theorem isAmt_of (n : Int) (h0 : 0 ≤ n) (h1 : n ≤ 1125899906842624) (w : World) : Calls Tryd.prog 17 #[.int .i64 n] w fun e w' => e = .returned (.bool true) ∧ w' = w := by
  go_enter Tryd.func17, Tryd.ntmps17
  go_wp2
  go_ret
  exact ⟨rfl, rfl⟩
end Go.Proofs.YtamjnkjgdaojiaaDoor
