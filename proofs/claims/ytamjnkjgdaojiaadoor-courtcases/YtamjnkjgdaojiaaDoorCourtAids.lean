/-
  The laws on courts: cases in memory, held against each other; both courts.
-/
import Derived.Test.YtamjnkjgdaojiaaDoorJudged
import Derived.Test.YtamjnkjgdaojiaaDoorBroughtIn
import Derived.Test.YtamjnkjgdaojiaaDoorRefCourt
import Derived.Test.YtamjnkjgdaojiaaDoorEvEq
namespace Go.Proofs.YtamjnkjgdaojiaaDoor
open Go.RowKit

theorem RCt.drewN {F : Nat → Prop} {w : World} {cb : Nat} {x : Ct} (h : RCt F w cb x) (n : Nat) : RCt F (w.drewN n) cb x := h.keptP (G := fun _ => False) ((KeptP.refl _ _).drewN n) (fun _ g => g.elim)
theorem RCt.nextB {F : Nat → Prop} {w w' : World} {cb : Nat} {x : Ct} (h : RCt F w cb x) (k : Below w.heap.size w w') : RCt F w' cb x := h.keptP (KeptP.of_below (F := fun _ => False) k) fun _ g => g.elim
theorem CasesAt.drewN {w : World} {d : Value} {q : Nat} {L : List Cs} (h : CasesAt w d q L) (n : Nat) : CasesAt (w.drewN n) d q L := h.keptP (G := fun _ => False) ((KeptP.refl _ _).drewN n) fun _ g => g
theorem CasesAt.of_row {w : World} {B : Nat} {T : TypeId} {d : Value} {L : List Cs} (h : w.ownsRow B T 4 d L.length (crow L)) : ∃ q, CasesAt w d q L ∧ (0 < L.length → B ≤ q) := by
  rcases h.2 with ⟨rfl, h0⟩ | ⟨g, cap, cur, rfl, hb, _, hcap, hmax, _⟩
  · exact ⟨0, ⟨none, 0, 0, by rw [h0], by omega, by omega, fun g => by omega, fun i t ht => by have := (List.getElem?_eq_some_iff.1 ht).1; omega⟩, fun g => by omega⟩
  · refine ⟨g, ⟨_, 0, cap, rfl, hcap, hmax, fun _ => rfl, fun i t ht => ?_⟩, fun _ => hb⟩
    have hi := (List.getElem?_eq_some_iff.1 ht).1
    obtain ⟨a, b, c, d⟩ := crow_at L i t ht
    rw [Nat.zero_add]
    exact ⟨(h.cellAt _ (by omega)).trans a, (h.cellAt _ (by omega)).trans b, (h.cellAt _ (by omega)).trans c, (h.cellAt _ (by omega)).trans d⟩
theorem ev_neq (a1 a2 a3 : Int) (w : World) : (binOp .neq 53 (.agg #[.int .i64 a1, .int .i64 a2, .int .i64 a3]) (.agg #[.int .i64 a1, .int .i64 a2, .int .i64 a3])).run Tryd.prog w = .ok (.bool false) w := by
  have h1 : Tryd.prog.underlying 53 = some (.struct (Tryd.prog.fieldsOf 53)) := by kernel_rfl
  have h2 : Tryd.prog.stoodInHeld 53 = false := by kernel_rfl
  rw [run_neq_struct, run_equalIn_agg w 9999 53 _ _ h1 h2, Tryd.fieldsEv]
  have e : ∀ (d : Nat) (x y : Int) (w : World), (Op.equalIn (d + 1) 3 (.int .i64 x) (.int .i64 y)).run Tryd.prog w = .ok (x == y) w := fun d x y w => run_equalIn_int w d 3 .i64 .i64 x y Tryd.underlying3
  simp [Op.eqFields, e 9998, go_sem]
theorem rc_fresh (w : World) (t : TypeId) : RCt (fun k => k = w.heap.size) (w.alloc (.cells #[.slice none 0 0, .int .i64 0] t)) w.heap.size ⟨[], 0⟩ :=
  ⟨.slice none 0 0, fun k => ⟨.inl, fun h => h.elim id fun e => by cases e⟩, cell_new _ _ _ _ _ _ rfl rfl, cell_new _ _ _ _ _ _ rfl rfl, World.frozen?_alloc_at _ _ _ _ rfl, World.frozen?_alloc_at _ _ _ _ rfl, World.ownsRow_nil _ _ _ _, fun e => by cases e⟩
theorem tmod_two (n : Int) : n.tmod 2 = 0 ↔ n % 2 = 0 := ⟨fun h => Int.emod_eq_zero_of_dvd (Int.dvd_of_tmod_eq_zero h), fun h => Int.tmod_eq_zero_of_dvd (Int.dvd_of_emod_eq_zero h)⟩
theorem Ct.acc_len (x : Ct) (o : Int) (e : Ev) (c : Int) : (x.acc o e c).L.length ≤ x.L.length + 1 := by
  unfold Ct.acc
  split
  · show (x.L ++ [(o, e)]).length ≤ _
    simp
  · omega
/-- both courts, with the same cases -/
def Courts (B : Nat) (w0 w : World) (cb rb : Nat) (g l : Nat) : Prop := ∃ F G x, x.Ok ∧ x.L.length ≤ l ∧ PCt F w cb x g ∧ RCt G w rb x ∧ Sides B w0 w F G
end Go.Proofs.YtamjnkjgdaojiaaDoor
