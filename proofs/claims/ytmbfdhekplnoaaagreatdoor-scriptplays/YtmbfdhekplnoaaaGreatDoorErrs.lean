/-
  errors.Is and errors.As of this program by their contracts, at the errors that package api knows: a sentinel (a pointer to an errors.errorString) and a fault (a pointer to an api.Fault). Go's own text is walked.
-/
import Derived.Test.YtmbfdhekplnoaaaGreatDoorIssueMathX
import Derived.Test.YtmbfdhekplnoaaaGreatDoorProgPurseActsX
import Derived.LaidEql
import Derived.Stop.Asserts
import Derived.RowKitTokens
namespace Go.Proofs.YtmbfdhekplnoaaaGreatDoor
open Go.RowKit Go.Extern.Stop Go.Stop Go.Extern

/-- a fault's value -/
abbrev flt (n : Nat) : Value := .iface 139 (.pointer (some ⟨n, 0, none⟩))

theorem Tryz.compES : (Tryz.prog.info? 366).map (·.comparable) = some true := by kernel_rfl
theorem Tryz.sizeES : (Tryz.prog.info? 385).map (·.size) = some 1 := by kernel_rfl
theorem eql_same (a : Addr) (w : World) : (binOp .eql 26 (sent a) (sent a)).run Tryz.prog w = .ok (.bool true) w := by
  obtain ⟨i, hi, hcmp⟩ := Option.map_eq_some_iff.1 Tryz.compES
  obtain ⟨j, hj, _⟩ := Option.map_eq_some_iff.1 Tryz.sizeES
  exact run_eql_iface_ptr_same w a Tryz.underlying26 Tryz.underlying366 hi hcmp hj
theorem eql_other (a b : Addr) (w : World) (hne : a ≠ b) (ha : Plain w a) (hb : Plain w b) : (binOp .eql 26 (sent a) (sent b)).run Tryz.prog w = .ok (.bool false) w := by
  obtain ⟨i, hi, hcmp⟩ := Option.map_eq_some_iff.1 Tryz.compES
  obtain ⟨j, hj, hjs⟩ := Option.map_eq_some_iff.1 Tryz.sizeES
  obtain ⟨ca, ta, ha⟩ := ha
  obtain ⟨cb, tb, hb⟩ := hb
  exact run_eql_iface_ptr_other w Tryz.underlying26 Tryz.underlying366 hi hcmp hj (by rw [hjs]; decide) hne ha hb
theorem eql_fault (n : Nat) (b : Addr) (w : World) : (binOp .eql 26 (flt n) (sent b)).run Tryz.prog w = .ok (.bool false) w :=
  run_eql_iface_types 139 366 _ _ Tryz.underlying26 (by decide) w

/-! what the two dynamic types lack, and have -/
theorem noIsES (v : Value) (xT : TypeId) (w : World) : (Instr.typeAssert (.iface 366 v) xT 293 true).run Tryz.prog w = .ok (.tuple #[.nilIface, .bool false]) w := run_typeAssert_lacksB Tryz.underlying293 (by kernel_rfl) (by kernel_rfl) v xT w
theorem noAsES (v : Value) (xT : TypeId) (w : World) : (Instr.typeAssert (.iface 366 v) xT 287 true).run Tryz.prog w = .ok (.tuple #[.nilIface, .bool false]) w := run_typeAssert_lacksB Tryz.underlying287 (by kernel_rfl) (by kernel_rfl) v xT w
theorem noUnES (v : Value) (xT : TypeId) (w : World) : (Instr.typeAssert (.iface 366 v) xT 290 true).run Tryz.prog w = .ok (.tuple #[.nilIface, .bool false]) w := run_typeAssert_lacksB Tryz.underlying290 (by kernel_rfl) (by kernel_rfl) v xT w
theorem noUnsES (v : Value) (xT : TypeId) (w : World) : (Instr.typeAssert (.iface 366 v) xT 291 true).run Tryz.prog w = .ok (.tuple #[.nilIface, .bool false]) w := run_typeAssert_lacksB Tryz.underlying291 (by kernel_rfl) (by kernel_rfl) v xT w
theorem noIsF (v : Value) (xT : TypeId) (w : World) : (Instr.typeAssert (.iface 139 v) xT 293 true).run Tryz.prog w = .ok (.tuple #[.nilIface, .bool false]) w := run_typeAssert_lacksB Tryz.underlying293 (by kernel_rfl) (by kernel_rfl) v xT w
theorem unF (v : Value) (xT : TypeId) (w : World) : (Instr.typeAssert (.iface 139 v) xT 290 true).run Tryz.prog w = .ok (.tuple #[.iface 139 v, .bool true]) w := run_typeAssert_hasB Tryz.underlying290 (by kernel_rfl) v xT w

set_option maxRecDepth 100000 in
set_option maxHeartbeats 1000000 in
theorem is_same (a : Addr) (w : World) :
    Calls Tryz.prog 151 #[sent a, sent a, .bool true] w fun e w' => e = .returned (.bool true) ∧ w' = w := by
  have q := eql_same a
  go_enter Tryz.func151, Tryz.ntmps151
  go_wp2
  refine wp_loop_rounds 1 ?_
  rw [rounds_succ]
  go_wp2
  go_ret
  exact ⟨rfl, rfl⟩
set_option maxRecDepth 100000 in
set_option maxHeartbeats 1000000 in
theorem is_other (a b : Addr) (w : World) (hne : a ≠ b) (ha : Plain w a) (hb : Plain w b) :
    Calls Tryz.prog 151 #[sent a, sent b, .bool true] w fun e w' => e = .returned (.bool false) ∧ w' = w := by
  have q := eql_other a b w hne ha hb
  have t1 := noIsES
  have t2 := noUnES
  have t3 := noUnsES
  clear hne ha hb
  go_enter Tryz.func151, Tryz.ntmps151
  go_wp2
  refine wp_loop_rounds 1 ?_
  rw [rounds_succ]
  go_wp2
  go_ret
  exact ⟨rfl, rfl⟩

theorem methUnwrap (v : Value) (w : World) : (method 497 139 v "Unwrap").run Tryz.prog w = .ok (337, v) w := by kernel_rfl
set_option maxRecDepth 100000 in
set_option maxHeartbeats 1000000 in
theorem is_fault_same (n : Nat) (a : Addr) (w : World) (hc : w.cell? ⟨n, 1, none⟩ = some (sent a)) :
    Calls Tryz.prog 151 #[flt n, sent a, .bool true] w fun e w' => e = .returned (.bool true) ∧ w' = w := by
  have q := eql_same a
  have qf := eql_fault n a
  have t1 := noIsF
  have t2 := unF
  have m := methUnwrap
  go_enter Tryz.func151, Tryz.ntmps151
  go_wp2
  refine wp_loop_rounds 2 ?_
  rw [rounds_succ]
  go_wp2
  rw [rounds_succ]
  go_wp2
  go_ret
  exact ⟨rfl, rfl⟩
set_option maxRecDepth 100000 in
set_option maxHeartbeats 1000000 in
theorem is_fault_other (n : Nat) (a b : Addr) (w : World) (hc : w.cell? ⟨n, 1, none⟩ = some (sent a)) (hne : a ≠ b) (ha : Plain w a) (hb : Plain w b) :
    Calls Tryz.prog 151 #[flt n, sent b, .bool true] w fun e w' => e = .returned (.bool false) ∧ w' = w := by
  have q := eql_other a b w hne ha hb
  have qf := eql_fault n b
  have t1 := noIsF
  have t2 := unF
  have t3 := noIsES
  have t4 := noUnES
  have t5 := noUnsES
  have m := methUnwrap
  clear hne ha hb
  go_enter Tryz.func151, Tryz.ntmps151
  go_wp2
  refine wp_loop_rounds 2 ?_
  rw [rounds_succ]
  go_wp2
  rw [rounds_succ]
  go_wp2
  go_ret
  exact ⟨rfl, rfl⟩

/-! errors.Is, at a sentinel -/
theorem typeOfES (v : Value) (w : World) : (ReflectliteType.typeOf #[.iface 366 v]).run Tryz.prog w = .ok (.iface 283 (.agg #[.pointer (some ⟨19, 366, none⟩)])) w := by kernel_rfl
theorem methComparable (h : Value) (w : World) : (method 497 283 (.agg #[h]) "Comparable").run Tryz.prog w = .ok (343, .agg #[h]) w := by kernel_rfl
theorem comparableES (w : World) : (ReflectliteType.method (fun t => do Rtype.noPackHeld "Comparable" t; (fun a : TypeInfo => Value.bool a.comparable) <$> typeInfo t) #[.agg #[.pointer (some ⟨19, 366, none⟩)]]).run Tryz.prog w = .ok (.bool true) w := by kernel_rfl
set_option maxRecDepth 100000 in
set_option maxHeartbeats 1000000 in
theorem Is_of (x : Value) (u : TypeId) (y : Value) (hx : x = .iface u y) (b : Addr) (r : Bool) (w : World) (h : Calls Tryz.prog 151 #[x, sent b, .bool true] w fun e w' => e = .returned (.bool r) ∧ w' = w) :
    Calls Tryz.prog 97 #[x, sent b] w fun e w' => e = .returned (.bool r) ∧ w' = w := by
  subst hx
  have h36 := @run_callFunc_extern Tryz.prog 150 _ ReflectliteType.typeOf Tryz.func150 (by kernel_rfl) (by kernel_rfl) (by kernel_rfl) (by kernel_rfl)
  have h71 := @run_callFunc_extern Tryz.prog 343 _ (ReflectliteType.method fun t => do Rtype.noPackHeld "Comparable" t; pure (.bool (← typeInfo t).comparable)) Tryz.func343 (by kernel_rfl) (by kernel_rfl) (by kernel_rfl) (by kernel_rfl)
  have tO := typeOfES
  have mC := methComparable
  have cp := comparableES
  go_enter Tryz.func97, Tryz.ntmps97
  go_wp2_with (go_at_call 151; refine h.mono ?_; rintro e w' ⟨rfl, rfl⟩)
  go_ret
  exact ⟨rfl, rfl⟩
end Go.Proofs.YtmbfdhekplnoaaaGreatDoor
