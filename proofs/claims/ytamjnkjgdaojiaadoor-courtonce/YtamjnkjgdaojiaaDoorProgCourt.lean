/-
  The program's court as it lies in memory: a set of evidence, a slice of cases; and by its contracts.
-/
import Derived.Test.YtamjnkjgdaojiaaDoorKeptP
import Derived.Test.YtamjnkjgdaojiaaDoorCourtMath
import Derived.Test.YtamjnkjgdaojiaaDoorCaseRow
import Derived.Deep.AppendLies
import Derived.Deep.RegionLaw
import Derived.Deep.QuietTactic
import Derived.BigQuiet
import Derived.Test.YtamjnkjgdaojiaaDoorErrIs
import Derived.Test.YtamjnkjgdaojiaaDoorEvMap
namespace Go.Proofs.YtamjnkjgdaojiaaDoor
open Go.RowKit

/-- what the court's errors hold -/
structure CtLaid (w : World) (A : Nat → Addr) : Prop where
  v1 : w.cell? ⟨0, 0, none⟩ = some (sent (A 1))
  v4 : w.cell? ⟨3, 0, none⟩ = some (sent (A 4))
  v9 : w.cell? ⟨2, 0, none⟩ = some (sent (A 9))
theorem CtLaid.below {w w' : World} {A : Nat → Addr} (h : CtLaid w A) (hB : Below w.heap.size w w') : CtLaid w' A :=
  ⟨by rw [hB.cell (cell_lt h.v1)]; exact h.v1, by rw [hB.cell (cell_lt h.v4)]; exact h.v4, by rw [hB.cell (cell_lt h.v9)]; exact h.v9⟩
theorem CtLaid.drewN {w : World} {A : Nat → Addr} (h : CtLaid w A) (n : Nat) : CtLaid (w.drewN n) A := h.below (below_drewN (Below.refl _ _) n)
/-- cases, one behind another, in block q -/
def CasesAt (w : World) (d : Value) (q : Nat) (L : List Cs) : Prop :=
  ∃ a off cap, d = .slice a L.length cap ∧ L.length ≤ cap ∧ cap ≤ 9223372036854775807 ∧ (0 < L.length → a = some ⟨q, off, none⟩) ∧ ∀ i t, L[i]? = some t → w.cell? ⟨q, off + i * 4, none⟩ = some (.int .i64 t.1) ∧ w.cell? ⟨q, off + i * 4 + 1, none⟩ = some (.int .i64 t.2.1) ∧ w.cell? ⟨q, off + i * 4 + 2, none⟩ = some (.int .i64 t.2.2.1) ∧ w.cell? ⟨q, off + i * 4 + 3, none⟩ = some (.int .i64 t.2.2.2)
def pctOf (n : Int) : Int := if n % 2 = 0 then 5 else 50
def shareA (n : Int) : Int := if n < 0 then 0 else n / 7
def shareB (n : Int) : Int := if n < 0 then 0 else n - n / 7

/-- the program's court, part by part -/
structure PCtAt (w : World) (cb m : Nat) (v : Value) (x : Ct) (g : Nat) : Prop where
  c0 : w.cell? ⟨cb, 0, none⟩ = some (.map (some m))
  c1 : w.cell? ⟨cb, 1, none⟩ = some v
  f1 : w.frozen? ⟨cb, 1, none⟩ = false
  own : OwnE w m x.seen g
  row : w.ownsRow 0 60 4 v x.due.length (crow x.due)
  tv : v.ownBlock ≠ some cb
  tm : v.ownBlock ≠ some m
  ne : m ≠ cb
  wfs : ∀ t, t ∈ x.L → EvWf t.2
/-- the program's court: what blocks are its own; g: how often its maps were written at most -/
def PCt (F : Nat → Prop) (w : World) (cb : Nat) (x : Ct) (g : Nat) : Prop := ∃ m v, (∀ k, F k ↔ (k = cb ∨ k = m ∨ v.ownBlock = some k)) ∧ PCtAt w cb m v x g
theorem PCtAt.keptP {w w' : World} {cb m g : Nat} {v : Value} {x : Ct} {G : Nat → Prop} (h : PCtAt w cb m v x g) (hK : KeptP G w w') (hc : ¬ G cb) (hm : ¬ G m) (hv : ∀ q, v.ownBlock = some q → ¬ G q) : PCtAt w' cb m v x g :=
  ⟨hK.old h.c0 hc, hK.old h.c1 hc, by rw [hK.frozen (p := ⟨cb, 1, none⟩) (cell_lt h.c1) hc]; exact h.f1, h.own.of_block (hK.block m h.own.lt hm), ownsRow_keptP h.row hK hv, h.tv, h.tm, h.ne, h.wfs⟩
theorem PCt.keptP {F G : Nat → Prop} {w w' : World} {cb g : Nat} {x : Ct} (h : PCt F w cb x g) (hK : KeptP G w w') (hF : ∀ k, G k → ¬ F k) : PCt F w' cb x g := by
  obtain ⟨m, v, hf, h⟩ := h
  exact ⟨m, v, hf, h.keptP hK (fun q => hF _ q ((hf _).2 (.inl rfl))) (fun q => hF _ q ((hf _).2 (.inr (.inl rfl)))) fun k e q => hF k q ((hf k).2 (.inr (.inr e)))⟩
theorem PCt.lt {F : Nat → Prop} {w : World} {cb g : Nat} {x : Ct} (h : PCt F w cb x g) (k : Nat) (hk : F k) : k < w.heap.size := by
  obtain ⟨m, v, hf, h⟩ := h
  rcases (hf k).1 hk with rfl | rfl | e
  · exact cell_lt h.c0
  · exact h.own.lt
  · exact (h.row.lt k e).2
theorem PCt.more {F : Nat → Prop} {w : World} {cb g g' : Nat} {x : Ct} (h : PCt F w cb x g) (hg : g ≤ g') : PCt F w cb x g' := by
  obtain ⟨m, v, hf, h⟩ := h
  exact ⟨m, v, hf, h.c0, h.c1, h.f1, h.own.more hg, h.row, h.tv, h.tm, h.ne, h.wfs⟩
/-- each part of what was brought is an int -/
theorem PCt.wfs {F : Nat → Prop} {w : World} {cb g : Nat} {x : Ct} (h : PCt F w cb x g) : ∀ t, t ∈ x.L → EvWf t.2 := by
  obtain ⟨m, v, hf, h⟩ := h
  exact h.wfs
theorem PCtAt.shape {w : World} {cb m g : Nat} {v : Value} {x : Ct} (h : PCtAt w cb m v x g) : ∃ a cap, v = .slice a x.due.length cap := by
  rcases h.row.2 with ⟨e, h0⟩ | ⟨g, cap, cur, e, _⟩
  · exact ⟨none, 0, by rw [e, h0]⟩
  · exact ⟨_, _, e⟩

/-! its contracts -/
theorem i64_bounds {n : Int} (h : (Lit.int .i64 n).wf = true) : -9223372036854775808 ≤ n ∧ n ≤ 9223372036854775807 := by
  simp [Lit.wf, IntKind.min, IntKind.max, IntKind.signed, IntKind.bits] at h
  omega
theorem own_none (w : World) : OwnE (w.alloc (.map #[] 0)) w.heap.size (fun _ => false) 0 := ⟨0, .map [], World.ownsMap_made w _ _ _, Nat.le_refl _, fun _ _ => rfl⟩
set_option maxRecDepth 100000 in
theorem pc_new (w : World) :
    Calls Tryd.prog 28 #[] w fun e w' => ∃ cb F, e = .returned (.pointer (some ⟨cb, 0, none⟩)) ∧ PCt F w' cb ⟨[], 0⟩ 0 ∧ (∀ k, F k → w.heap.size ≤ k) ∧ Below w.heap.size w w' := by
  have hmm := @run_makeMap Tryd.prog
  go_enter Tryd.func28, Tryd.ntmps28
  go_wp2
  go_ret
  refine ⟨w.heap.size + 1, fun k => k = w.heap.size + 1 ∨ k = w.heap.size, rfl, ⟨w.heap.size, .slice none 0 0, fun k => ⟨fun q => q.imp id .inl, fun q => q.imp id fun q => q.elim id fun q => by cases q⟩, ?_⟩, fun k q => by omega, ((Below.refl _ _).alloc (Nat.le_refl _) _).alloc (by simp) _⟩
  refine ⟨by simp, by simp, World.frozen?_alloc_at _ _ _ _ (by simp), (own_none w).of_block ?_, World.ownsRow_nil _ _ _ _, (fun q => by cases q), (fun q => by cases q), by omega, (fun t ht => by cases ht)⟩
  exact heap_alloc_old _ _ (by simp)
theorem pc_percent (n : Int) (_wn : (Lit.int .i64 n).wf = true) (w : World) :
    Calls Tryd.prog 34 #[.int .i64 n] w fun e w' => e = .returned (.int .i64 (pctOf n)) ∧ w' = w := by
  unfold pctOf
  by_cases h : n % 2 = 0
  · have z : n.tmod 2 = 0 := Int.tmod_eq_zero_of_dvd (Int.dvd_of_emod_eq_zero h)
    rw [if_pos h]
    go_enter Tryd.func34, Tryd.ntmps34
    go_wp2
    go_ret
    exact ⟨rfl, rfl⟩
  · have z : ¬ n.tmod 2 = 0 := fun q => h (Int.emod_eq_zero_of_dvd (Int.dvd_of_tmod_eq_zero q))
    rw [if_neg h]
    go_enter Tryd.func34, Tryd.ntmps34
    go_wp2
    go_ret
    exact ⟨rfl, rfl⟩
theorem pc_share (n : Int) (wn : (Lit.int .i64 n).wf = true) (w : World) :
    Calls Tryd.prog 35 #[.int .i64 n] w fun e w' => e = .returned (.tuple #[.int .i64 (shareA n), .int .i64 (shareB n)]) ∧ ∃ m, w' = w.drewN m := by
  obtain ⟨n0, n1⟩ := i64_bounds wn
  unfold shareA shareB
  by_cases h : n < 0
  · rw [if_pos h, if_pos h]
    go_enter Tryd.func35, Tryd.ntmps35
    go_wp2
    go_ret2
    exact ⟨rfl, 0, rfl⟩
  · rw [if_neg h, if_neg h]
    go_enter Tryd.func35, Tryd.ntmps35
    go_wp2
    go_ret2
    exact ⟨rfl, 0, rfl⟩
set_option maxRecDepth 100000 in
theorem pc_due (F : Nat → Prop) (cb : Nat) (x : Ct) (_hx : x.Ok) (_hl : x.L.length ≤ 900) (g : Nat) (w : World) (h : PCt F w cb x g) :
    Calls Tryd.prog 29 #[.pointer (some ⟨cb, 0, none⟩)] w fun e w' => ∃ d q F', e = .returned d ∧ CasesAt w' d q x.due ∧ (0 < x.due.length → ¬ F' q ∧ (F q ∨ w.heap.size ≤ q)) ∧ PCt F' w' cb x.asked g ∧ Moved F F' w w' := by
  obtain ⟨m, v, hF, h⟩ := h
  have c1 := h.c1
  have f1 := h.f1
  obtain ⟨q, hq⟩ : ∃ q, CasesAt w v q x.due ∧ (0 < x.due.length → v.ownBlock = some q) := by
    rcases h.row.2 with ⟨e, h0⟩ | ⟨q, cap, cur, e, hb, hg, h1, h2, h3, h4⟩
    · refine ⟨0, ⟨none, 0, 0, by rw [e, h0], by omega, by omega, fun z => by omega, fun i t ht => ?_⟩, fun z => by omega⟩
      have := (List.getElem?_eq_some_iff.1 ht).1
      omega
    · refine ⟨q, ⟨some ⟨q, 0, none⟩, 0, cap, e, by omega, by have : maxLen = 9223372036854775807 := rfl; omega, fun _ => rfl, fun i t ht => ?_⟩, fun _ => by rw [e]; rfl⟩
      have hi := (List.getElem?_eq_some_iff.1 ht).1
      obtain ⟨a, b, c, d⟩ := crow_at x.due i t ht
      have row := h.row
      subst e
      rw [Nat.zero_add]
      exact ⟨(row.cellAt _ (by omega)).trans a, (row.cellAt _ (by omega)).trans b, (row.cellAt _ (by omega)).trans c, (row.cellAt _ (by omega)).trans d⟩
  obtain ⟨hC, hO⟩ := hq
  have HC := hide hC
  have H := hide h
  clear h hC
  go_enter Tryd.func29, Tryd.ntmps29
  go_wp2
  go_ret
  have hK : KeptP (fun k => k = cb) w (w.setCell ⟨cb, 1, none⟩ (.slice none 0 0)) := KeptP.setCell (F := fun k => k = cb) (KeptP.refl _ _) (p := ⟨cb, 1, none⟩) rfl _
  have h := H.out
  have nq : 0 < x.due.length → q ≠ cb ∧ q ≠ m := fun z => ⟨fun e => h.tv (e ▸ hO z), fun e => h.tm (e ▸ hO z)⟩
  refine ⟨v, q, fun k => k = cb ∨ k = m, rfl, ?_, fun z => ⟨fun y => y.elim (nq z).1 (nq z).2, .inl ((hF q).2 (.inr (.inr (hO z))))⟩, ⟨m, .slice none 0 0, fun k => ⟨fun y => y.imp id .inl, fun y => y.imp id fun y => y.elim id fun y => by cases y⟩, ?_⟩, hK.mono fun k _ e => (hF k).2 (.inl e), fun k _ y => (hF k).2 (y.imp id .inl)⟩
  · obtain ⟨a, off, cap, e, l1, l2, l3, l4⟩ := HC.out
    refine ⟨a, off, cap, e, l1, l2, l3, fun i t ht => ?_⟩
    have hi := (List.getElem?_eq_some_iff.1 ht).1
    have nb := (nq (by omega)).1
    obtain ⟨d0, d1, d2, d3⟩ := l4 i t ht
    exact ⟨hK.old d0 nb, hK.old d1 nb, hK.old d2 nb, hK.old d3 nb⟩
  · have d0 : x.asked.due = [] := by unfold Ct.asked Ct.due; simp
    refine ⟨?_, World.cell?_setCell_same _ _ _ h.c1, ?_, ?_, ?_, (fun y => by cases y), (fun y => by cases y), h.ne, h.wfs⟩
    · rw [World.cell?_setCell_other _ _ _ _ (by simp)]; exact h.c0
    · rw [World.frozen?_setCell]; exact h.f1
    · exact h.own.of_block (hK.block m h.own.lt h.ne)
    · rw [d0]; exact World.ownsRow_nil _ _ _ _
end Go.Proofs.YtamjnkjgdaojiaaDoor
