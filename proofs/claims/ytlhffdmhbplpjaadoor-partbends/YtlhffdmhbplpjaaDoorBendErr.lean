/-
  part.Bend where it tells an error; Check, Bend and BendFault told together; a copy of a slice of points by append.
-/
import Derived.Test.YtlhffdmhbplpjaaDoorBend
import Derived.Test.YtlhffdmhbplpjaaDoorCode
import Derived.Test.YtlhffdmhbplpjaaDoorBetweenWalk
import Derived.Deep.AppendSrc
namespace Go.Proofs.YtlhffdmhbplpjaaDoor
open Go.RowKit

/-- what a call tells that hands an error on, and what Code makes of it -/
def Told (w' : World) (c p : Int) (e1 : Value) (w'' : World) : Prop := (∃ u y, e1 = .iface u y) ∧ Tells w'' e1 c p ∧ Below w'.heap.size w' w''

theorem told_sent {w' w'' : World} {A : Nat → Addr} (hL : Laid w' A) (k : Nat) (hk : k < 10) (hB : Below w'.heap.size w' w'') : Told w' (k + 1) (-1) (sent (A k)) w'' :=
  ⟨⟨_, _, rfl⟩, tells_sent (hL.below hB) k hk, hB⟩
theorem told_flt {w' w'' : World} {A : Nat → Addr} (hL : Laid w' A) (n k : Nat) (p : Int) (hk : k < 10) (hc0 : w''.cell? ⟨n, 0, none⟩ = some (.int .i64 p)) (hc1 : w''.cell? ⟨n, 1, none⟩ = some (sent (A k))) (hB : Below w'.heap.size w' w'') : Told w' (k + 1) p (flt n) w'' :=
  ⟨⟨_, _, rfl⟩, tells_flt (hL.below hB) n k p hk hc0 hc1, hB⟩

set_option maxRecDepth 100000 in
set_option maxHeartbeats 1000000 in
/-- Bend hands Check's error on. -/
theorem bend_hands (a : Option Addr) (len cap : Nat) (x c p : Int) (w : World)
    (ck : Calls Tryd.prog 24 #[.slice a len cap] w fun e w' => ∃ e1, e = .returned e1 ∧ Told w c p e1 w') :
    Calls Tryd.prog 21 #[.slice a len cap, .int .i64 x] w fun e w' => ∃ e1, e = .returned (.tuple #[.int .i64 0, e1]) ∧ Told w c p e1 w' := by
  go_enter Tryd.func21, Tryd.ntmps21
  go_wp2_with fail
  refine ck.mono ?_
  rintro e w1 ⟨e1, rfl, ⟨u, y, rfl⟩, hT, hB⟩
  have HT := hide hT
  clear hT ck
  go_wp2
  go_ret2
  exact ⟨_, rfl, ⟨u, y, rfl⟩, HT.out, hB⟩

set_option maxRecDepth 100000 in
set_option maxHeartbeats 1000000 in
/-- a bend, and a place that is off the scale -/
theorem bend_off (b off len cap : Nat) (X Y : Nat → Int) (x : Int) (A : Nat → Addr) (w : World) (hL : Laid w A) (hb : b < w.heap.size) (h2 : 2 ≤ len) (h8 : len ≤ 8) (hP : Pts w b off len X Y) (hG : ∀ i, i < len → Good X Y i) (hx : x < 0 ∨ 1000000 < x) :
    Calls Tryd.prog 21 #[.slice (some ⟨b, off, none⟩) len cap, .int .i64 x] w fun e w' => ∃ e1, e = .returned (.tuple #[.int .i64 0, e1]) ∧ Told w 2 (-1) e1 w' := by
  have ck := check_fine b off len cap X Y w hb h2 h8 hP hG
  clear hP hG
  rcases hx with hx | hx
  · go_enter Tryd.func21, Tryd.ntmps21
    go_wp2_with fail
    refine ck.mono ?_
    rintro e w1 ⟨rfl, hB⟩
    have hE := (hL.below hB).v1
    go_wp2
    go_quiet (fail)
    go_wp2
    go_ret2
    exact ⟨_, rfl, told_sent hL 1 (by omega) (below_drewN hB _)⟩
  · have hx' : ¬ x < 0 := by omega
    have hd : decide (x ≤ 1000000) = false := by simp; omega
    go_enter Tryd.func21, Tryd.ntmps21
    go_wp2_with fail
    refine ck.mono ?_
    rintro e w1 ⟨rfl, hB⟩
    have hE := (hL.below hB).v1
    go_wp2
    go_quiet (fail)
    go_wp2
    go_ret2
    exact ⟨_, rfl, told_sent hL 1 (by omega) (below_drewN hB _)⟩

/-! a copy -/
def ptsCells (len : Nat) (X Y : Nat → Int) : List Value := (List.range (len * 2)).map fun j => .int .i64 (if j % 2 = 0 then X (j / 2) else Y (j / 2))
theorem ptsCells_even (len : Nat) (X Y : Nat → Int) (i : Nat) (h : i < len) : (ptsCells len X Y)[i * 2]? = some (.int .i64 (X i)) := by
  unfold ptsCells
  rw [List.getElem?_map, List.getElem?_range (by omega)]
  have e1 : i * 2 % 2 = 0 := by omega
  have e2 : i * 2 / 2 = i := by omega
  simp [e1, e2]
theorem ptsCells_odd (len : Nat) (X Y : Nat → Int) (i : Nat) (h : i < len) : (ptsCells len X Y)[i * 2 + 1]? = some (.int .i64 (Y i)) := by
  unfold ptsCells
  rw [List.getElem?_map, List.getElem?_range (by omega)]
  have e2 : (i * 2 + 1) / 2 = i := by omega
  simp [e2]

theorem Tryd.infoPoint : (Tryd.prog.info? 49).map (fun i => (i.size, i.bytes, i.zero)) = some (2, 16, some (.agg #[.int .i64 0, .int .i64 0])) := by kernel_rfl
/-- the cells that are copied -/
theorem src_points (w : World) (b off len : Nat) (X Y : Nat → Int) (hP : Pts w b off len X Y) (j : Nat) (v : Value) (hj : (ptsCells len X Y)[j]? = some v) : w.cell? ((⟨b, off, none⟩ : Addr).add j) = some v := by
  have hl : j < len * 2 := by
    have := (List.getElem?_eq_some_iff.1 hj).1
    simpa [ptsCells] using this
  have hjd := hP (j / 2) (by omega)
  rw [add_plain]
  rcases Nat.mod_two_eq_zero_or_one j with hm | hm
  · have e : j = j / 2 * 2 := by omega
    have he := ptsCells_even len X Y (j / 2) (by omega)
    rw [← e] at he
    rw [hj] at he
    have hc := hjd.1
    rw [← e] at hc
    rw [hc, he]
  · have e : j = j / 2 * 2 + 1 := by omega
    have ho := ptsCells_odd len X Y (j / 2) (by omega)
    rw [← e] at ho
    rw [hj] at ho
    have hc := hjd.2
    rw [Nat.add_assoc, ← e] at hc
    rw [hc, ho]
/-- append(nil, l...), l not empty: new memory with the same points in it. -/
def copyCap (w : World) (len : Nat) : Nat := grownCap w len 0 49
def copyCells (w : World) (len : Nat) (X Y : Nat → Int) : Array Value := (ptsCells len X Y).toArray ++ Builtin.zeroCells (Value.agg #[.int .i64 0, .int .i64 0]).cells (copyCap w len - len)
theorem append_run_points (w : World) (b off len cap : Nat) (X Y : Nat → Int) (ty : TypeId) (hP : Pts w b off len X Y) (h0 : 0 < len) (h30 : len ≤ 30) :
    (Builtin.append_ #[38, 38] ty #[.slice none 0 0, .slice (some ⟨b, off, none⟩) len cap]).run Tryd.prog w = .ok (.slice (some ⟨w.heap.size, 0, none⟩) len (copyCap w len)) (w.drew.alloc (.cells (copyCells w len X Y) 49)) := by
  obtain ⟨i, hi, hs⟩ := Option.map_eq_some_iff.1 Tryd.infoPoint
  simp only [Prod.mk.injEq] at hs
  obtain ⟨hsz, hby, hz⟩ := hs
  exact run_append_nil w 38 ty 49 i (.agg #[.int .i64 0, .int .i64 0]) Tryd.underlying38 hi hz ⟨b, off, none⟩ len cap (ptsCells len X Y) (by unfold ptsCells; rw [hsz]; simp)
    (fun j v hj => src_points w b off len X Y hP j v hj) h0 (by omega) (by rw [hby]; omega)
theorem copyCap_ge (w : World) (len : Nat) : len ≤ copyCap w len := grownCap_ge _ _ _ _
theorem copyCells_at (w : World) (len : Nat) (X Y : Nat → Int) : ∀ i, i < len → (copyCells w len X Y)[i * 2]? = some (.int .i64 (X i)) ∧ (copyCells w len X Y)[i * 2 + 1]? = some (.int .i64 (Y i)) := fun i hi => by
  unfold copyCells
  refine ⟨?_, ?_⟩
  · have := ptsCells_even len X Y i hi
    rw [Array.getElem?_append_left (by simp [ptsCells]; omega)]
    simpa using this
  · have := ptsCells_odd len X Y i hi
    rw [Array.getElem?_append_left (by simp [ptsCells]; omega)]
    simpa using this

/-! append by its run, for a walk -/
theorem wp_append_run {P : Program} (w : World) {o : Oper} {a : Act} {K : Act → World → Prop} {Q : Exit → Act → World → Prop} (s x : Operand) (t : TypeId)
    (ho : o.op = .call { callee := .builtin .append, args := #[s, x], argTypes := #[t, t] }) (vs vx : Value) (hs : a.eval s = vs) (hx : a.eval x = vx) (v' : Value) (w' : World)
    (hr : (Builtin.append_ #[t, t] o.type #[vs, vx]).run P w = .ok v' w') (h : K (a.put o.dst v') w') : o.wp P a w K Q := by
  unfold Oper.wp execOp
  simp only [ho, resolve, invoke, builtin, Sem.run_bind, Sem.run_pure, Result.andThen_ok, List.map_toArray, List.map_cons, List.map_nil, hs, hx, hr]
  exact h
theorem wpList_append_run {P : Program} (w : World) {ops : Array Oper} {rest : List Oper} {o : Oper} {a : Act} {Q : Exit → Act → World → Prop} (hgd : o.guard = none) (s x : Operand) (t : TypeId)
    (ho : o.op = .call { callee := .builtin .append, args := #[s, x], argTypes := #[t, t] }) (vs vx : Value) (hs : a.eval s = vs) (hx : a.eval x = vx) (v' : Value) (w' : World)
    (hr : (Builtin.append_ #[t, t] o.type #[vs, vx]).run P w = .ok v' w') (h : wpList P ops Q rest (a.put o.dst v') w') : wpList P ops Q (o :: rest) a w :=
  wpList_plain hgd fun _ hK => wp_append_run w s x t ho vs vx hs hx v' w' hr (hK _ _ h)
theorem step_append_run {P : Program} {ops : Array Oper} {o : Oper} {a : Act} {w : World} {K : Act → World → Prop} {Q : Exit → Act → World → Prop} {E : Prop} (hg : o.guard = none) (s x : Operand) (t : TypeId)
    (ho : o.op = .call { callee := .builtin .append, args := #[s, x], argTypes := #[t, t] }) (vs vx : Value) (hs : a.eval s = vs) (hx : a.eval x = vx) (v' : Value) (w' : World)
    (hr : (Builtin.append_ #[t, t] o.type #[vs, vx]).run P w = .ok v' w') (h : K (a.put o.dst v') w') : if Region.wanted o (yielded ops a.tmps) = true then Oper.wp P o a w K Q else E := by
  have hw : Region.wanted o (yielded ops a.tmps) = true := by simp [Region.wanted, hg]
  rw [if_pos hw]
  exact wp_append_run w s x t ho vs vx hs hx v' w' hr h
end Go.Proofs.YtlhffdmhbplpjaaDoor
