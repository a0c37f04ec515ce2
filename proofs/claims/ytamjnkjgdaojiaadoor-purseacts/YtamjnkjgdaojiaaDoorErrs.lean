/-
  errors.Is and errors.As of this program by their contracts, at the errors that package api knows: a sentinel (a pointer to an errors.errorString) and a fault (a pointer to an api.Fault). Go's own text is walked.
-/
import Derived.Test.YtamjnkjgdaojiaaDoorAid
import Derived.Test.YtamjnkjgdaojiaaDoorSentV
import Derived.LaidEql
import Derived.Stop.Asserts
import Derived.RowKitTokens
namespace Go.Proofs.YtamjnkjgdaojiaaDoor
open Go.RowKit Go.Extern.Stop Go.Stop Go.Extern

/-- a fault's value -/
abbrev flt (n : Nat) : Value := .iface 78 (.pointer (some ⟨n, 0, none⟩))

theorem Tryd.compES : (Tryd.prog.info? 114).map (·.comparable) = some true := by kernel_rfl
theorem Tryd.sizeES : (Tryd.prog.info? 135).map (·.size) = some 1 := by kernel_rfl
theorem eql_same (a : Addr) (w : World) : (binOp .eql 30 (sent a) (sent a)).run Tryd.prog w = .ok (.bool true) w := by
  obtain ⟨i, hi, hcmp⟩ := Option.map_eq_some_iff.1 Tryd.compES
  obtain ⟨j, hj, _⟩ := Option.map_eq_some_iff.1 Tryd.sizeES
  exact run_eql_iface_ptr_same w a Tryd.underlying30 Tryd.underlying114 hi hcmp hj
theorem eql_other (a b : Addr) (w : World) (hne : a ≠ b) (ha : Plain w a) (hb : Plain w b) (hm : Mates w a b) : (binOp .eql 30 (sent a) (sent b)).run Tryd.prog w = .ok (.bool false) w := by
  obtain ⟨i, hi, hcmp⟩ := Option.map_eq_some_iff.1 Tryd.compES
  obtain ⟨j, hj, hjs⟩ := Option.map_eq_some_iff.1 Tryd.sizeES
  have hz : j.size ≠ 0 := by rw [hjs]; decide
  have key : ∀ d, (Op.equalIn (d + 2) 30 (sent a) (sent b)).run Tryd.prog w = .ok false w := fun d => by
    simp [Op.equalIn, run_underlying Tryd.underlying30, run_underlying Tryd.underlying114, typeInfo, hi, hcmp, sizeOf, run_apart w hne ha hb hm, hj, hz]
  simp only [binOp]
  simp [Op.equal, Op.maxDepth, key 9998]
theorem eql_fault (n : Nat) (b : Addr) (w : World) : (binOp .eql 30 (flt n) (sent b)).run Tryd.prog w = .ok (.bool false) w :=
  run_eql_iface_types 78 114 _ _ Tryd.underlying30 (by decide) w

/-! what the two dynamic types lack, and have -/
theorem noIsES (v : Value) (xT : TypeId) (w : World) : (Instr.typeAssert (.iface 114 v) xT 111 true).run Tryd.prog w = .ok (.tuple #[.nilIface, .bool false]) w := run_typeAssert_lacksB Tryd.underlying111 (by kernel_rfl) (by kernel_rfl) v xT w
theorem noAsES (v : Value) (xT : TypeId) (w : World) : (Instr.typeAssert (.iface 114 v) xT 104 true).run Tryd.prog w = .ok (.tuple #[.nilIface, .bool false]) w := run_typeAssert_lacksB Tryd.underlying104 (by kernel_rfl) (by kernel_rfl) v xT w
theorem noUnES (v : Value) (xT : TypeId) (w : World) : (Instr.typeAssert (.iface 114 v) xT 107 true).run Tryd.prog w = .ok (.tuple #[.nilIface, .bool false]) w := run_typeAssert_lacksB Tryd.underlying107 (by kernel_rfl) (by kernel_rfl) v xT w
theorem noUnsES (v : Value) (xT : TypeId) (w : World) : (Instr.typeAssert (.iface 114 v) xT 109 true).run Tryd.prog w = .ok (.tuple #[.nilIface, .bool false]) w := run_typeAssert_lacksB Tryd.underlying109 (by kernel_rfl) (by kernel_rfl) v xT w
theorem noIsF (v : Value) (xT : TypeId) (w : World) : (Instr.typeAssert (.iface 78 v) xT 111 true).run Tryd.prog w = .ok (.tuple #[.nilIface, .bool false]) w := run_typeAssert_lacksB Tryd.underlying111 (by kernel_rfl) (by kernel_rfl) v xT w
theorem unF (v : Value) (xT : TypeId) (w : World) : (Instr.typeAssert (.iface 78 v) xT 107 true).run Tryd.prog w = .ok (.tuple #[.iface 78 v, .bool true]) w := run_typeAssert_hasB Tryd.underlying107 (by kernel_rfl) v xT w

set_option maxRecDepth 100000 in
set_option maxHeartbeats 1000000 in
theorem is_same (a : Addr) (w : World) :
    Calls Tryd.prog 52 #[sent a, sent a, .bool true] w fun e w' => e = .returned (.bool true) ∧ w' = w := by
  have q := eql_same a
  go_enter Tryd.func52, Tryd.ntmps52
  go_wp2
  refine wp_loop_rounds 1 ?_
  rw [rounds_succ]
  go_wp2
  go_ret
  exact ⟨rfl, rfl⟩
set_option maxRecDepth 100000 in
set_option maxHeartbeats 1000000 in
theorem is_other (a b : Addr) (w : World) (hne : a ≠ b) (ha : Plain w a) (hb : Plain w b) (hm : Mates w a b) :
    Calls Tryd.prog 52 #[sent a, sent b, .bool true] w fun e w' => e = .returned (.bool false) ∧ w' = w := by
  have q := eql_other a b w hne ha hb hm
  have t1 := noIsES
  have t2 := noUnES
  have t3 := noUnsES
  clear hne ha hb hm
  go_enter Tryd.func52, Tryd.ntmps52
  go_wp2
  refine wp_loop_rounds 1 ?_
  rw [rounds_succ]
  go_wp2
  go_ret
  exact ⟨rfl, rfl⟩

theorem methUnwrap (v : Value) (w : World) : (method 247 78 v "Unwrap").run Tryd.prog w = .ok (73, v) w := by kernel_rfl
set_option maxRecDepth 100000 in
set_option maxHeartbeats 1000000 in
theorem is_fault_same (n : Nat) (a : Addr) (w : World) (hc : w.cell? ⟨n, 1, none⟩ = some (sent a)) :
    Calls Tryd.prog 52 #[flt n, sent a, .bool true] w fun e w' => e = .returned (.bool true) ∧ w' = w := by
  have q := eql_same a
  have qf := eql_fault n a
  have t1 := noIsF
  have t2 := unF
  have m := methUnwrap
  go_enter Tryd.func52, Tryd.ntmps52
  go_wp2
  refine wp_loop_rounds 2 ?_
  rw [rounds_succ]
  go_wp2
  rw [rounds_succ]
  go_wp2
  go_ret
  exact ⟨rfl, rfl⟩
set_option maxRecDepth 100000 in
set_option maxHeartbeats 1000000 in
theorem is_fault_other (n : Nat) (a b : Addr) (w : World) (hc : w.cell? ⟨n, 1, none⟩ = some (sent a)) (hne : a ≠ b) (ha : Plain w a) (hb : Plain w b) (hm : Mates w a b) :
    Calls Tryd.prog 52 #[flt n, sent b, .bool true] w fun e w' => e = .returned (.bool false) ∧ w' = w := by
  have q := eql_other a b w hne ha hb hm
  have qf := eql_fault n b
  have t1 := noIsF
  have t2 := unF
  have t3 := noIsES
  have t4 := noUnES
  have t5 := noUnsES
  have m := methUnwrap
  clear hne ha hb hm
  go_enter Tryd.func52, Tryd.ntmps52
  go_wp2
  refine wp_loop_rounds 2 ?_
  rw [rounds_succ]
  go_wp2
  rw [rounds_succ]
  go_wp2
  go_ret
  exact ⟨rfl, rfl⟩

/-! errors.Is, at a sentinel -/
theorem typeOfES (v : Value) (w : World) : (ReflectliteType.typeOf #[.iface 114 v]).run Tryd.prog w = .ok (.iface 100 (.agg #[.pointer (some ⟨11, 114, none⟩)])) w := by kernel_rfl
theorem methComparable (h : Value) (w : World) : (method 247 100 (.agg #[h]) "Comparable").run Tryd.prog w = .ok (79, .agg #[h]) w := by kernel_rfl
theorem comparableES (w : World) : (ReflectliteType.method (fun t => do Rtype.noPackHeld "Comparable" t; (fun a : TypeInfo => Value.bool a.comparable) <$> typeInfo t) #[.agg #[.pointer (some ⟨11, 114, none⟩)]]).run Tryd.prog w = .ok (.bool true) w := by kernel_rfl
set_option maxRecDepth 100000 in
set_option maxHeartbeats 1000000 in
theorem Is_of (x : Value) (u : TypeId) (y : Value) (hx : x = .iface u y) (b : Addr) (r : Bool) (w : World) (h : Calls Tryd.prog 52 #[x, sent b, .bool true] w fun e w' => e = .returned (.bool r) ∧ w' = w) :
    Calls Tryd.prog 46 #[x, sent b] w fun e w' => e = .returned (.bool r) ∧ w' = w := by
  subst hx
  have h36 := @run_callFunc_extern Tryd.prog 51 _ ReflectliteType.typeOf Tryd.func51 (by kernel_rfl) (by kernel_rfl) (by kernel_rfl) (by kernel_rfl)
  have h71 := @run_callFunc_extern Tryd.prog 79 _ (ReflectliteType.method fun t => do Rtype.noPackHeld "Comparable" t; pure (.bool (← typeInfo t).comparable)) Tryd.func79 (by kernel_rfl) (by kernel_rfl) (by kernel_rfl) (by kernel_rfl)
  have tO := typeOfES
  have mC := methComparable
  have cp := comparableES
  go_enter Tryd.func46, Tryd.ntmps46
  go_wp2_with (go_at_call 52; refine h.mono ?_; rintro e w' ⟨rfl, rfl⟩)
  go_ret
  exact ⟨rfl, rfl⟩
end Go.Proofs.YtamjnkjgdaojiaaDoor
