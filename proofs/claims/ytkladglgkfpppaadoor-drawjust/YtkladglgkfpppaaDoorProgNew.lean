/-
  A new draw of the program by its contracts; a copy of a slice of numbers; the closed fact.
-/
import Derived.Test.YtkladglgkfpppaaDoorProgFill
import Derived.Deep.AppendSrc
namespace Go.Proofs.YtkladglgkfpppaaDoor
open Go.RowKit Go.Deep

set_option maxRecDepth 100000 in
/-- New hands the error of the weights on, and no draw. -/
theorem new_hands (v : Value) (w : World) (R : Value → World → Prop)
    (ck : Calls Tryd.prog 72 #[v] w fun e w' => ∃ u y, e = .returned (.tuple #[.int .i64 0, .iface u y]) ∧ R (.iface u y) w') :
    Calls Tryd.prog 49 #[v] w fun e w' => ∃ u y, e = .returned (.tuple #[.pointer none, .iface u y]) ∧ R (.iface u y) w' := by
  go_enter Tryd.func49, Tryd.ntmps49
  go_wp2_with fail
  refine ck.mono ?_
  rintro e w1 ⟨u, y, rfl, hR⟩
  have HR := hide hR
  clear hR ck
  go_wp2
  go_ret2
  exact ⟨_, _, rfl, HR.out⟩

set_option maxRecDepth 100000 in
set_option maxHeartbeats 1000000 in
theorem new_fine (b off n cap : Nat) (W : Nat → Int) (w : World) (hI : Ints w b off n W) (hb : b < w.heap.size) (hW : Weights n W) (h0 : sumTo W n ≠ 0) :
    Calls Tryd.prog 49 #[.slice (some ⟨b, off, none⟩) n cap] w fun e w' => ∃ d c, e = .returned (.tuple #[.pointer (some ⟨d, 0, none⟩), .nilIface]) ∧ w.heap.size ≤ d ∧ DrawAt w' d c n (sumTo W n) (dend n W) ∧ Below w.heap.size w w' := by
  have T := together_fine b off n cap W w hI hW h0
  have F := fill_of b off n cap W w hI hb hW
  clear h0 hI
  go_enter Tryd.func49, Tryd.ntmps49
  go_wp2_with (first | (go_at_call 72; refine T.mono ?_; rintro e w1 ⟨rfl, rfl⟩) | (go_at_call 73; refine F.mono ?_; rintro e w1 ⟨c, rfl, hc, hcol, hB⟩))
  go_ret2
  have hs := hB.size
  refine ⟨_, _, rfl, hs, ⟨cell_new _ _ _ _ _ _ rfl rfl, cell_new _ _ _ _ _ _ rfl rfl, fun k hk => ?_, fun k hk => ?_⟩, hB.alloc hs _⟩
  · rw [World.cell?_alloc_lt _ _ _ (cell_lt (hcol k hk).1)]; exact (hcol k hk).1
  · rw [World.cell?_alloc_lt _ _ _ (cell_lt (hcol k hk).2)]; exact (hcol k hk).2

/-! a copy -/
def intCells (n : Nat) (W : Nat → Int) : List Value := (List.range n).map fun j => .int .i64 (W j)
theorem intCells_at (n : Nat) (W : Nat → Int) (i : Nat) (h : i < n) : (intCells n W)[i]? = some (.int .i64 (W i)) := by
  unfold intCells
  rw [List.getElem?_map, List.getElem?_range h]; rfl
theorem intCells_len (n : Nat) (W : Nat → Int) : (intCells n W).length = n := by simp [intCells]
def copyCapI (w : World) (n : Nat) : Nat := grownCap w n 0 3
def copyCellsI (w : World) (n : Nat) (W : Nat → Int) : Array Value := (intCells n W).toArray ++ Builtin.zeroCells (Value.int .i64 0).cells (copyCapI w n - n)
theorem append_run_ints (w : World) (b off n cap : Nat) (W : Nat → Int) (ty : TypeId) (hI : Ints w b off n W) (h0 : 0 < n) (h1 : n ≤ 1000) :
    (Builtin.append_ #[22, 22] ty #[.slice none 0 0, .slice (some ⟨b, off, none⟩) n cap]).run Tryd.prog w = .ok (.slice (some ⟨w.heap.size, 0, none⟩) n (copyCapI w n)) (w.drew.alloc (.cells (copyCellsI w n W) 3)) := by
  obtain ⟨i, hi, hz, hs, hb⟩ := info_parts Tryd.infoInts
  exact run_append_nil w 22 ty 3 i (.int .i64 0) Tryd.underlying22 hi hz ⟨b, off, none⟩ n cap (intCells n W) (by rw [intCells_len, hs]; simp)
    (fun j v hj => by
      have hl : j < n := by
        have := (List.getElem?_eq_some_iff.1 hj).1
        rwa [intCells_len] at this
      rw [intCells_at n W j hl] at hj
      rw [add_plain, ← Option.some.inj hj]
      exact hI j hl) h0 (by omega) (by rw [hb]; omega)
theorem append_run_none (w : World) (a : Option Addr) (cap : Nat) (ty : TypeId) :
    (Builtin.append_ #[22, 22] ty #[.slice none 0 0, .slice a 0 cap]).run Tryd.prog w = .ok (.slice none 0 0) w := by
  obtain ⟨i, hi, hz, hs, hb⟩ := info_parts Tryd.infoInts
  cases a <;> simp [Builtin.append_, run_underlying Tryd.underlying22, sizeOf, typeInfo, hi, Builtin.lenOf, Builtin.firstCells, loadCells, loadCellsFrom]
theorem copyCells_ints (w : World) (n : Nat) (W : Nat → Int) (i : Nat) (h : i < n) : (copyCellsI w n W)[i]? = some (.int .i64 (W i)) := by
  unfold copyCellsI
  rw [Array.getElem?_append_left (by simp [intCells_len]; omega)]
  simpa using intCells_at n W i h

/-! append by its run, for a walk -/
theorem wpList_append_by {P : Program} (w : World) {ops : Array Oper} {rest : List Oper} {o : Oper} {a : Act} {Q : Exit → Act → World → Prop} (hgd : o.guard = none) (s x : Operand) (t : TypeId)
    (ho : o.op = .call { callee := .builtin .append, args := #[s, x], argTypes := #[t, t] }) (vs vx : Value) (hs : a.eval s = vs) (hx : a.eval x = vx) (v' : Value) (w' : World)
    (hr : (Builtin.append_ #[t, t] o.type #[vs, vx]).run P w = .ok v' w') (h : wpList P ops Q rest (a.put o.dst v') w') : wpList P ops Q (o :: rest) a w := by
  refine wpList_plain hgd fun K hK => ?_
  unfold Oper.wp execOp
  simp only [ho, resolve, invoke, builtin, Sem.run_bind, Sem.run_pure, Result.andThen_ok, List.map_toArray, List.map_cons, List.map_nil, hs, hx, hr]
  exact hK _ _ h

theorem ownInts_some (b off n cap : Nat) (W : Nat → Int) (w : World) (hI : Ints w b off n W) (h0 : 0 < n) (h1 : n ≤ 1000) :
    Calls Tryd.prog 50 #[.slice (some ⟨b, off, none⟩) n cap] w fun e w' => ∃ m cap', e = .returned (.slice (some ⟨m, 0, none⟩) n cap') ∧ m < w'.heap.size ∧ Ints w' m 0 n W ∧ Below w.heap.size w w' := by
  go_enter Tryd.func50, Tryd.ntmps50
  go_wp2_with (at_builtin; refine wpList_append_by _ rfl (.tmp 4) (.tmp 5) 22 rfl _ _ rfl rfl _ _ (append_run_ints _ b off n cap W _ hI h0 h1) ?_)
  go_ret
  exact ⟨_, _, rfl, by simp, fun i hi => by rw [Nat.zero_add]; exact cell_new _ _ _ _ _ _ rfl (copyCells_ints w n W i hi), ((Below.refl _ _).drew).alloc (Nat.le_refl _) _⟩
theorem ownInts_none (a : Option Addr) (cap : Nat) (w : World) :
    Calls Tryd.prog 50 #[.slice a 0 cap] w fun e w' => e = .returned (.slice none 0 0) ∧ w' = w := by
  go_enter Tryd.func50, Tryd.ntmps50
  go_wp2_with (at_builtin; refine wpList_append_by _ rfl (.tmp 4) (.tmp 5) 22 rfl _ _ rfl rfl _ _ (append_run_none _ a cap _) ?_)
  go_ret
  exact ⟨rfl, rfl⟩

/-! the closed fact -/
def two : Nat → Int := fun i => if i = 0 then 1 else 3
theorem two_weights : Weights 2 two := ⟨by omega, by omega, fun k hk => by unfold two; split <;> omega⟩
theorem two_sum : sumTo two 2 = 4 := by decide
theorem two_pick : (dend 2 two).pick 0 2 = 1 := by decide
theorem two_ints (w : World) (t : TypeId) : Ints (w.alloc (.cells #[.int .i64 1, .int .i64 3] t)) w.heap.size 0 2 two := fun i hi => by
  have : i = 0 ∨ i = 1 := by omega
  rcases this with rfl | rfl
  · exact cell_new _ _ _ _ _ _ rfl rfl
  · exact cell_new _ _ _ _ _ _ rfl rfl
set_option maxRecDepth 100000 in
set_option maxHeartbeats 1000000 in
theorem drawn_of (w : World) : Calls Tryd.prog 48 #[] w fun e w' => e = .returned (.bool true) ∧ Below w.heap.size w w' := by
  have N := new_fine w.heap.size 0 2 2 two _ (two_ints w 3) (by simp) two_weights (by rw [two_sum]; omega)
  rw [two_sum] at N
  go_enter Tryd.func48, Tryd.ntmps48
  go_wp2_with fail
  refine N.mono ?_
  rintro e w1 ⟨d, c, rfl, hd, D, hB⟩
  have hB1 : Below w.heap.size w w1 := ((Below.refl _ _).alloc (Nat.le_refl _) _).trans (hB.mono (by simp))
  have P := draw_pick_yes d c 2 0 2 4 (dend 2 two) w1 D (by omega) (by omega) (by omega)
  rw [two_pick] at P
  clear N hB
  go_wp2_with (first | (go_at_call 53; refine (draw_height d c 2 4 _ _ D).mono ?_; rintro e w' ⟨rfl, rfl⟩) | (go_at_call 54; refine (draw_columns d c 2 4 _ _ D).mono ?_; rintro e w' ⟨rfl, rfl⟩) | (go_at_call 56; refine P.mono ?_; rintro e w2 ⟨rfl, hB2⟩))
  go_ret
  exact ⟨rfl, hB1.trans (hB2.mono hB1.size)⟩
end Go.Proofs.YtkladglgkfpppaaDoor
