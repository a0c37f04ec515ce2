/-
  A copy of a slice of numbers: append(nil, l...); the law's own OwnInts.
-/
import Derived.Test.YtamjnkjgdaojiaaDoorIntsAt
import Derived.Deep.AppendSrc
namespace Go.Proofs.YtamjnkjgdaojiaaDoor
open Go.RowKit

theorem Tryd.infoInts : (Tryd.prog.info? 3).map (fun i => (i.zero, i.size, i.bytes)) = some (some (.int .i64 0), 1, 8) := by kernel_rfl
/-! a copy -/
def intCells (n : Nat) (W : Nat → Int) : List Value := (List.range n).map fun j => .int .i64 (W j)
theorem intCells_at (n : Nat) (W : Nat → Int) (i : Nat) (h : i < n) : (intCells n W)[i]? = some (.int .i64 (W i)) := by
  unfold intCells
  rw [List.getElem?_map, List.getElem?_range h]; rfl
theorem intCells_len (n : Nat) (W : Nat → Int) : (intCells n W).length = n := by simp [intCells]
def copyCapI (w : World) (n : Nat) : Nat := grownCap w n 0 3
def copyCellsI (w : World) (n : Nat) (W : Nat → Int) : Array Value := (intCells n W).toArray ++ Builtin.zeroCells (Value.int .i64 0).cells (copyCapI w n - n)
theorem append_run_ints (w : World) (b off n cap : Nat) (W : Nat → Int) (ty : TypeId) (hI : Ints w b off n W) (h0 : 0 < n) (h1 : n ≤ 1000) :
    (Builtin.append_ #[23, 23] ty #[.slice none 0 0, .slice (some ⟨b, off, none⟩) n cap]).run Tryd.prog w = .ok (.slice (some ⟨w.heap.size, 0, none⟩) n (copyCapI w n)) (w.drew.alloc (.cells (copyCellsI w n W) 3)) := by
  obtain ⟨i, hi, hz, hs, hb⟩ := info_parts Tryd.infoInts
  exact run_append_nil w 23 ty 3 i (.int .i64 0) Tryd.underlying23 hi hz ⟨b, off, none⟩ n cap (intCells n W) (by rw [intCells_len, hs]; simp)
    (fun j v hj => by
      have hl : j < n := by
        have := (List.getElem?_eq_some_iff.1 hj).1
        rwa [intCells_len] at this
      rw [intCells_at n W j hl] at hj
      rw [add_plain, ← Option.some.inj hj]
      exact hI j hl) h0 (by omega) (by rw [hb]; omega)
theorem append_run_none (w : World) (a : Option Addr) (cap : Nat) (ty : TypeId) :
    (Builtin.append_ #[23, 23] ty #[.slice none 0 0, .slice a 0 cap]).run Tryd.prog w = .ok (.slice none 0 0) w := by
  obtain ⟨i, hi, hz, hs, hb⟩ := info_parts Tryd.infoInts
  cases a <;> simp [Builtin.append_, run_underlying Tryd.underlying23, sizeOf, typeInfo, hi, Builtin.lenOf, Builtin.firstCells, loadCells, loadCellsFrom]
theorem copyCells_ints (w : World) (n : Nat) (W : Nat → Int) (i : Nat) (h : i < n) : (copyCellsI w n W)[i]? = some (.int .i64 (W i)) := by
  unfold copyCellsI
  rw [Array.getElem?_append_left (by simp [intCells_len]; omega)]
  simpa using intCells_at n W i h

/-! append by its run, for a walk -/
theorem wpList_append_by {P : Program} (w : World) {ops : Array Oper} {rest : List Oper} {o : Oper} {a : Act} {Q : Exit → Act → World → Prop} (hgd : o.guard = none) (s x : Operand) (t : TypeId)
    (ho : o.op = .call { callee := .builtin .append, args := #[s, x], argTypes := #[t, t] }) (vs vx : Value) (hs : a.eval s = vs) (hx : a.eval x = vx) (v' : Value) (w' : World)
    (hr : (Builtin.append_ #[t, t] o.type #[vs, vx]).run P w = .ok v' w') (h : wpList P ops Q rest (a.put o.dst v') w') : wpList P ops Q (o :: rest) a w := by
  refine wpList_plain hgd fun K hK => ?_
  unfold Oper.wp execOp
  simp only [ho, resolve, invoke, builtin, Sem.run_bind, Sem.run_pure, Result.andThen_ok, List.map_toArray, List.map_cons, List.map_nil, hs, hx, hr]
  exact hK _ _ h

end Go.Proofs.YtamjnkjgdaojiaaDoor
