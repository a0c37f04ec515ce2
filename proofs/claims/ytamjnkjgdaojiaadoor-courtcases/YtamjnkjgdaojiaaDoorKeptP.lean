/-
  Worlds that are alike but for blocks of one kind; parts of memory told by tags.
-/
import Derived.Test.YtamjnkjgdaojiaaDoorKept
import Derived.Laws.AppendOwn
import Derived.Deep.RegionLaw
namespace Go.Proofs.YtamjnkjgdaojiaaDoor
open Go.RowKit

/-- of what was there only such blocks may have turned -/
structure KeptP (F : Nat → Prop) (w w' : World) : Prop where
  os : w'.os = w.os
  tape : w'.tape = w.tape
  output : w'.output = w.output
  size : w.heap.size ≤ w'.heap.size
  block : ∀ k, k < w.heap.size → ¬ F k → w'.heap[k]? = w.heap[k]?
theorem KeptP.refl (F : Nat → Prop) (w : World) : KeptP F w w := ⟨rfl, rfl, rfl, Nat.le_refl _, fun _ _ _ => rfl⟩
theorem KeptP.mono {F G : Nat → Prop} {a b : World} (h : KeptP F a b) (hs : ∀ k, k < a.heap.size → F k → G k) : KeptP G a b :=
  ⟨h.os, h.tape, h.output, h.size, fun i hi hx => h.block i hi (fun g => hx (hs i hi g))⟩
/-- what a second step turns beside is new -/
theorem KeptP.trans {F G : Nat → Prop} {a b c : World} (h : KeptP F a b) (k : KeptP G b c) (hg : ∀ i, i < a.heap.size → G i → F i) : KeptP F a c :=
  ⟨k.os.trans h.os, k.tape.trans h.tape, k.output.trans h.output, Nat.le_trans h.size k.size, fun i hi hx => (k.block i (Nat.lt_of_lt_of_le hi h.size) (fun g => hx (hg i hi g))).trans (h.block i hi hx)⟩
theorem KeptP.drewN {F : Nat → Prop} {a w : World} (h : KeptP F a w) (n : Nat) : KeptP F a (w.drewN n) := ⟨h.os, h.tape, h.output, h.size, h.block⟩
theorem KeptP.drew {F : Nat → Prop} {a w : World} (h : KeptP F a w) : KeptP F a w.drew := ⟨h.os, h.tape, h.output, h.size, h.block⟩
theorem KeptP.setCell {F : Nat → Prop} {a w : World} (h : KeptP F a w) {p : Addr} (hp : F p.block) (u : Value) : KeptP F a (w.setCell p u) :=
  h.trans (G := F) ⟨rfl, rfl, rfl, by simp [World.setCell], fun k _ hk => Below.heap_setCell _ _ _ _ (fun e => hk (by rw [e]; exact hp))⟩ fun _ _ g => g
theorem KeptP.of_below {F : Nat → Prop} {w w' : World} (h : Below w.heap.size w w') : KeptP F w w' := ⟨h.os, h.tape, h.output, h.size, fun k hk _ => h.block k hk⟩
theorem KeptP.of_kept {F : Nat → Prop} {X : List Nat} {w w' : World} (h : Kept X w w') (hx : ∀ k, k ∈ X → F k) : KeptP F w w' := ⟨h.os, h.tape, h.output, h.size, fun k hk hF => h.block k hk (fun g => hF (hx k g))⟩
theorem KeptP.below {F : Nat → Prop} {B : Nat} {w w' : World} (h : KeptP F w w') (hB : B ≤ w.heap.size) (hX : ∀ k, F k → B ≤ k) : Below B w w' :=
  ⟨h.os, h.tape, h.output, h.size, fun k hk => h.block k (by omega) (fun g => by have := hX k g; omega)⟩
theorem KeptP.cell {F : Nat → Prop} {w w' : World} (h : KeptP F w w') {p : Addr} (hp : p.block < w.heap.size) (hx : ¬ F p.block) : w'.cell? p = w.cell? p := World.cell?_of_block (w := w) (h.block p.block hp hx)
theorem KeptP.frozen {F : Nat → Prop} {w w' : World} (h : KeptP F w w') {p : Addr} (hp : p.block < w.heap.size) (hx : ¬ F p.block) : w'.frozen? p = w.frozen? p := World.frozen?_of_block (w := w) (h.block p.block hp hx)
theorem KeptP.old {F : Nat → Prop} {w w' : World} (h : KeptP F w w') {p : Addr} {v : Value} (hc : w.cell? p = some v) (hx : ¬ F p.block) : w'.cell? p = some v := by rw [h.cell (cell_lt hc) hx]; exact hc
/-- some blocks alone -/
theorem KeptP.kept {F : Nat → Prop} {w w' : World} (h : KeptP F w w') : Below 0 w w' := ⟨h.os, h.tape, h.output, h.size, fun k hk => by omega⟩
/-- what a step did: of what was there only its own has turned, and all that it has now it had, or it is new -/
structure Moved (F F' : Nat → Prop) (w w' : World) : Prop where
  kept : KeptP F w w'
  old : ∀ k, k < w.heap.size → F' k → F k
theorem Moved.refl (F : Nat → Prop) (w : World) : Moved F F w w := ⟨KeptP.refl _ _, fun _ _ h => h⟩
theorem Moved.trans {F F' F'' : Nat → Prop} {a b c : World} (h : Moved F F' a b) (k : Moved F' F'' b c) : Moved F F'' a c :=
  ⟨h.kept.trans k.kept h.old, fun i hi g => h.old i hi (k.old i (Nat.lt_of_lt_of_le hi h.kept.size) g)⟩
theorem Moved.drewN {F F' : Nat → Prop} {a w : World} (h : Moved F F' a w) (n : Nat) : Moved F F' a (w.drewN n) := ⟨h.kept.drewN n, h.old⟩
theorem Moved.drew {F F' : Nat → Prop} {a w : World} (h : Moved F F' a w) : Moved F F' a w.drew := ⟨h.kept.drew, h.old⟩
theorem drewN_twice (w : World) (m n : Nat) : (w.drewN m).drewN n = w.drewN (m + n) := by simp [World.drewN, Nat.add_assoc]
theorem ownsRow_keptP {B : Nat} {w w' : World} {e : TypeId} {size n : Nat} {v : Value} {xs : List Value} {F : Nat → Prop} (h : w.ownsRow B e size v n xs) (hK : KeptP F w w') (hv : ∀ g, v.ownBlock = some g → ¬ F g) : w'.ownsRow B e size v n xs := by
  refine ⟨h.1, ?_⟩
  rcases h.2 with g | ⟨g, cap, cur, rfl, hb, hg, h1, h2, h3, h4⟩
  · exact .inl g
  · refine .inr ⟨g, cap, cur, rfl, hb, ?_, h1, h2, h3, h4⟩
    have hlt : g < w.heap.size := by
      rcases Nat.lt_or_ge g w.heap.size with l | l
      · exact l
      · rw [Array.getElem?_eq_none l] at hg; cases hg
    rw [hK.block g hlt (hv g rfl)]
    exact hg
theorem step_append_by {P : Program} {ops : Array Oper} {o : Oper} {a : Act} {w : World} {K : Act → World → Prop} {Q : Exit → Act → World → Prop} {E : Prop} (hg : o.guard = none) (s x : Operand) (t : TypeId)
    (ho : o.op = .call { callee := .builtin .append, args := #[s, x], argTypes := #[t, t] }) (vs vx : Value) (hs : a.eval s = vs) (hx : a.eval x = vx) (v' : Value) (w' : World)
    (hr : (Builtin.append_ #[t, t] o.type #[vs, vx]).run P w = .ok v' w') (h : K (a.put o.dst v') w') : if Region.wanted o (yielded ops a.tmps) = true then Oper.wp P o a w K Q else E := by
  have hw : Region.wanted o (yielded ops a.tmps) = true := by simp [Region.wanted, hg]
  rw [if_pos hw]
  unfold Oper.wp execOp
  simp only [ho, resolve, invoke, builtin, Sem.run_bind, Sem.run_pure, Result.andThen_ok, List.map_toArray, List.map_cons, List.map_nil, hs, hx, hr]
  exact h
end Go.Proofs.YtamjnkjgdaojiaaDoor
