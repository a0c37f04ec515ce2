/-
  errors.Is and errors.As of this program by their contracts, at the errors that package api knows: a sentinel (a pointer to an errors.errorString) and a fault (a pointer to an api.Fault). Go's own text is walked.
-/
import Derived.Test.YtaihcceobnfmhaaGreatDoorAidX
import Derived.Test.YtaihcceobnfmhaaGreatDoorProgPurseX
import Derived.LaidEql
import Derived.Stop.Asserts
import Derived.RowKitTokens
namespace Go.Proofs.YtaihcceobnfmhaaGreatDoor
open Go.RowKit Go.Extern.Stop Go.Stop Go.Extern

/-- a fault's value -/
abbrev flt (n : Nat) : Value := .iface 147 (.pointer (some ⟨n, 0, none⟩))

theorem Tryz.compES : (Tryz.prog.info? 243).map (·.comparable) = some true := by kernel_rfl
theorem Tryz.sizeES : (Tryz.prog.info? 264).map (·.size) = some 1 := by kernel_rfl
theorem eql_same (a : Addr) (w : World) : (binOp .eql 27 (sent a) (sent a)).run Tryz.prog w = .ok (.bool true) w := by
  obtain ⟨i, hi, hcmp⟩ := Option.map_eq_some_iff.1 Tryz.compES
  obtain ⟨j, hj, _⟩ := Option.map_eq_some_iff.1 Tryz.sizeES
  exact run_eql_iface_ptr_same w a Tryz.underlying27 Tryz.underlying243 hi hcmp hj
theorem eql_other (a b : Addr) (w : World) (hne : a ≠ b) (ha : Plain w a) (hb : Plain w b) (hm : Mates w a b) : (binOp .eql 27 (sent a) (sent b)).run Tryz.prog w = .ok (.bool false) w := by
  obtain ⟨i, hi, hcmp⟩ := Option.map_eq_some_iff.1 Tryz.compES
  obtain ⟨j, hj, hjs⟩ := Option.map_eq_some_iff.1 Tryz.sizeES
  have hz : j.size ≠ 0 := by rw [hjs]; decide
  have key : ∀ d, (Op.equalIn (d + 2) 27 (sent a) (sent b)).run Tryz.prog w = .ok false w := fun d => by
    simp [Op.equalIn, run_underlying Tryz.underlying27, run_underlying Tryz.underlying243, typeInfo, hi, hcmp, sizeOf, run_apart w hne ha hb hm, hj, hz]
  simp only [binOp]
  simp [Op.equal, Op.maxDepth, key 9998]
theorem eql_fault (n : Nat) (b : Addr) (w : World) : (binOp .eql 27 (flt n) (sent b)).run Tryz.prog w = .ok (.bool false) w :=
  run_eql_iface_types 147 243 _ _ Tryz.underlying27 (by decide) w

/-! what the two dynamic types lack, and have -/
theorem noIsES (v : Value) (xT : TypeId) (w : World) : (Instr.typeAssert (.iface 243 v) xT 235 true).run Tryz.prog w = .ok (.tuple #[.nilIface, .bool false]) w := run_typeAssert_lacksB Tryz.underlying235 (by kernel_rfl) (by kernel_rfl) v xT w
theorem noAsES (v : Value) (xT : TypeId) (w : World) : (Instr.typeAssert (.iface 243 v) xT 228 true).run Tryz.prog w = .ok (.tuple #[.nilIface, .bool false]) w := run_typeAssert_lacksB Tryz.underlying228 (by kernel_rfl) (by kernel_rfl) v xT w
theorem noUnES (v : Value) (xT : TypeId) (w : World) : (Instr.typeAssert (.iface 243 v) xT 231 true).run Tryz.prog w = .ok (.tuple #[.nilIface, .bool false]) w := run_typeAssert_lacksB Tryz.underlying231 (by kernel_rfl) (by kernel_rfl) v xT w
theorem noUnsES (v : Value) (xT : TypeId) (w : World) : (Instr.typeAssert (.iface 243 v) xT 233 true).run Tryz.prog w = .ok (.tuple #[.nilIface, .bool false]) w := run_typeAssert_lacksB Tryz.underlying233 (by kernel_rfl) (by kernel_rfl) v xT w
theorem noIsF (v : Value) (xT : TypeId) (w : World) : (Instr.typeAssert (.iface 147 v) xT 235 true).run Tryz.prog w = .ok (.tuple #[.nilIface, .bool false]) w := run_typeAssert_lacksB Tryz.underlying235 (by kernel_rfl) (by kernel_rfl) v xT w
theorem unF (v : Value) (xT : TypeId) (w : World) : (Instr.typeAssert (.iface 147 v) xT 231 true).run Tryz.prog w = .ok (.tuple #[.iface 147 v, .bool true]) w := run_typeAssert_hasB Tryz.underlying231 (by kernel_rfl) v xT w

set_option maxRecDepth 100000 in
set_option maxHeartbeats 1000000 in
theorem is_same (a : Addr) (w : World) :
    Calls Tryz.prog 163 #[sent a, sent a, .bool true] w fun e w' => e = .returned (.bool true) ∧ w' = w := by
  have q := eql_same a
  go_enter Tryz.func163, Tryz.ntmps163
  go_wp2
  refine wp_loop_rounds 1 ?_
  rw [rounds_succ]
  go_wp2
  go_ret
  exact ⟨rfl, rfl⟩
set_option maxRecDepth 100000 in
set_option maxHeartbeats 1000000 in
theorem is_other (a b : Addr) (w : World) (hne : a ≠ b) (ha : Plain w a) (hb : Plain w b) (hm : Mates w a b) :
    Calls Tryz.prog 163 #[sent a, sent b, .bool true] w fun e w' => e = .returned (.bool false) ∧ w' = w := by
  have q := eql_other a b w hne ha hb hm
  have t1 := noIsES
  have t2 := noUnES
  have t3 := noUnsES
  clear hne ha hb hm
  go_enter Tryz.func163, Tryz.ntmps163
  go_wp2
  refine wp_loop_rounds 1 ?_
  rw [rounds_succ]
  go_wp2
  go_ret
  exact ⟨rfl, rfl⟩

theorem methUnwrap (v : Value) (w : World) : (method 376 147 v "Unwrap").run Tryz.prog w = .ok (228, v) w := by kernel_rfl
set_option maxRecDepth 100000 in
set_option maxHeartbeats 1000000 in
theorem is_fault_same (n : Nat) (a : Addr) (w : World) (hc : w.cell? ⟨n, 1, none⟩ = some (sent a)) :
    Calls Tryz.prog 163 #[flt n, sent a, .bool true] w fun e w' => e = .returned (.bool true) ∧ w' = w := by
  have q := eql_same a
  have qf := eql_fault n a
  have t1 := noIsF
  have t2 := unF
  have m := methUnwrap
  go_enter Tryz.func163, Tryz.ntmps163
  go_wp2
  refine wp_loop_rounds 2 ?_
  rw [rounds_succ]
  go_wp2
  rw [rounds_succ]
  go_wp2
  go_ret
  exact ⟨rfl, rfl⟩
set_option maxRecDepth 100000 in
set_option maxHeartbeats 1000000 in
theorem is_fault_other (n : Nat) (a b : Addr) (w : World) (hc : w.cell? ⟨n, 1, none⟩ = some (sent a)) (hne : a ≠ b) (ha : Plain w a) (hb : Plain w b) (hm : Mates w a b) :
    Calls Tryz.prog 163 #[flt n, sent b, .bool true] w fun e w' => e = .returned (.bool false) ∧ w' = w := by
  have q := eql_other a b w hne ha hb hm
  have qf := eql_fault n b
  have t1 := noIsF
  have t2 := unF
  have t3 := noIsES
  have t4 := noUnES
  have t5 := noUnsES
  have m := methUnwrap
  clear hne ha hb hm
  go_enter Tryz.func163, Tryz.ntmps163
  go_wp2
  refine wp_loop_rounds 2 ?_
  rw [rounds_succ]
  go_wp2
  rw [rounds_succ]
  go_wp2
  go_ret
  exact ⟨rfl, rfl⟩

/-! errors.Is, at a sentinel -/
theorem typeOfES (v : Value) (w : World) : (ReflectliteType.typeOf #[.iface 243 v]).run Tryz.prog w = .ok (.iface 224 (.agg #[.pointer (some ⟨13, 243, none⟩)])) w := by kernel_rfl
theorem methComparable (h : Value) (w : World) : (method 376 224 (.agg #[h]) "Comparable").run Tryz.prog w = .ok (234, .agg #[h]) w := by kernel_rfl
theorem comparableES (w : World) : (ReflectliteType.method (fun t => do Rtype.noPackHeld "Comparable" t; (fun a : TypeInfo => Value.bool a.comparable) <$> typeInfo t) #[.agg #[.pointer (some ⟨13, 243, none⟩)]]).run Tryz.prog w = .ok (.bool true) w := by kernel_rfl
set_option maxRecDepth 100000 in
set_option maxHeartbeats 1000000 in
theorem Is_of (x : Value) (u : TypeId) (y : Value) (hx : x = .iface u y) (b : Addr) (r : Bool) (w : World) (h : Calls Tryz.prog 163 #[x, sent b, .bool true] w fun e w' => e = .returned (.bool r) ∧ w' = w) :
    Calls Tryz.prog 111 #[x, sent b] w fun e w' => e = .returned (.bool r) ∧ w' = w := by
  subst hx
  have h36 := @run_callFunc_extern Tryz.prog 162 _ ReflectliteType.typeOf Tryz.func162 (by kernel_rfl) (by kernel_rfl) (by kernel_rfl) (by kernel_rfl)
  have h71 := @run_callFunc_extern Tryz.prog 234 _ (ReflectliteType.method fun t => do Rtype.noPackHeld "Comparable" t; pure (.bool (← typeInfo t).comparable)) Tryz.func234 (by kernel_rfl) (by kernel_rfl) (by kernel_rfl) (by kernel_rfl)
  have tO := typeOfES
  have mC := methComparable
  have cp := comparableES
  go_enter Tryz.func111, Tryz.ntmps111
  go_wp2_with (go_at_call 163; refine h.mono ?_; rintro e w' ⟨rfl, rfl⟩)
  go_ret
  exact ⟨rfl, rfl⟩
end Go.Proofs.YtaihcceobnfmhaaGreatDoor
