/-
  Two pieces of evidence, held against each other.
-/
import Derived.Test.YtamjnkjgdaojiaaDoorAid
import Derived.Laws.StructEq
namespace Go.Proofs.YtamjnkjgdaojiaaDoor
open Go.RowKit

theorem Tryd.fieldsEv : (Tryd.prog.fieldsOf 53) = #[⟨ "Baker", 3, 0, false, "", "", 0⟩, ⟨ "Cycle", 3, 1, false, "", "", 8⟩, ⟨ "Number", 3, 2, false, "", "", 16⟩] := by kernel_rfl
theorem ev_guard (op : BinOp) (x y : Operand) (xs ys : Array Value) (w : World) : (eqGuard op 53 x y (.agg xs) (.agg ys)).run Tryd.prog w = .ok () w := run_eqGuard_agg w op 53 x y xs ys (by kernel_rfl)
theorem ev_eql (a1 a2 a3 b1 b2 b3 : Int) (w : World) : (binOp .eql 53 (.agg #[.int .i64 a1, .int .i64 a2, .int .i64 a3]) (.agg #[.int .i64 b1, .int .i64 b2, .int .i64 b3])).run Tryd.prog w = .ok (.bool (decide ((a1, a2, a3) = (b1, b2, b3)))) w := by
  have h1 : Tryd.prog.underlying 53 = some (.struct (Tryd.prog.fieldsOf 53)) := by kernel_rfl
  have h2 : Tryd.prog.stoodInHeld 53 = false := by kernel_rfl
  rw [run_eql_struct, run_equalIn_agg w 9999 53 _ _ h1 h2, Tryd.fieldsEv]
  have e : ∀ (d : Nat) (x y : Int) (w : World), (Op.equalIn (d + 1) 3 (.int .i64 x) (.int .i64 y)).run Tryd.prog w = .ok (x == y) w := fun d x y w => run_equalIn_int w d 3 .i64 .i64 x y Tryd.underlying3
  simp [Op.eqFields, e 9998, go_sem]
  by_cases c1 : a1 = b1 <;> by_cases c2 : a2 = b2 <;> by_cases c3 : a3 = b3 <;> simp [c1, c2, c3]
end Go.Proofs.YtamjnkjgdaojiaaDoor
