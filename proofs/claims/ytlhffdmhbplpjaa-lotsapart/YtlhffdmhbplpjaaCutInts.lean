/-
  A slice of numbers cut in two.
-/
import Derived.Test.YtlhffdmhbplpjaaAid
import Derived.Test.YtlhffdmhbplpjaaRowLib
namespace Go.Proofs.Ytlhffdmhbplpjaa
open Go.RowKit

theorem Try.elemOfInts : Try.prog.elem 23 = 3 := by kernel_rfl
theorem sizeOfInt (w : World) : (sizeOf 3).run Try.prog w = .ok 1 w := by kernel_rfl
theorem cut_h (w : World) (a : Option Addr) (len cap c : Nat) (h : c ≤ cap) : (Instr.slice 23 (.slice a len cap) none (some (.int .i64 c)) none).run Try.prog w = .ok (sliced a 0 c cap 1) w := by
  rw [run_slice_h (P := Try.prog) w 23 a len cap (by rw [Try.elemOfInts]; exact Try.underlying23) .i64 c (by omega) (by omega), Try.elemOfInts, sizeOfInt]
  rfl
theorem cut_l (w : World) (a : Option Addr) (len cap c : Nat) (h : c ≤ len) : (Instr.slice 23 (.slice a len cap) (some (.int .i64 c)) none none).run Try.prog w = .ok (sliced a c len cap 1) w := by
  rw [run_slice_l (P := Try.prog) w 23 a len cap (by rw [Try.elemOfInts]; exact Try.underlying23) .i64 c (by omega) (by omega), Try.elemOfInts, sizeOfInt]
  rfl
end Go.Proofs.Ytlhffdmhbplpjaa
