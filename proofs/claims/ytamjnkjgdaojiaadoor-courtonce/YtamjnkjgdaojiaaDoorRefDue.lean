/-
  The document's court (bakehouseref2.Court) by its contracts: what is due.
-/
import Derived.Test.YtamjnkjgdaojiaaDoorRefAccuseNo
import Derived.Test.YtamjnkjgdaojiaaDoorKeptP
import Derived.Below
namespace Go.Proofs.YtamjnkjgdaojiaaDoor
open Go.RowKit

theorem crow_drop : ∀ (L : List Cs) (k : Nat), crow (L.drop k) = (crow L).drop (k * 4)
  | [], k => by simp [crow]
  | t :: l, 0 => by simp
  | t :: l, k + 1 => by
    rw [List.drop_succ_cons, crow_drop l k, show (k + 1) * 4 = k * 4 + 4 by omega]
    rfl
theorem crow_one (L : List Cs) : ∀ u ∈ crow L, u.oneCell' = true := by
  induction L with
  | nil => intro u hu; cases hu
  | cons t l ih =>
    intro u hu
    simp only [crow, List.mem_cons] at hu
    rcases hu with rfl | rfl | rfl | rfl | h
    · rfl
    · rfl
    · rfl
    · rfl
    · exact ih u h
theorem nil_nil_run (ty : TypeId) (w : World) : (Builtin.append_ #[49, 49] ty #[.slice none 0 0, .slice none 0 0]).run Tryd.prog w = .ok (.slice none 0 0) w := by
  unfold Builtin.append_
  simp [go_sem]
/-- a copy of what is due -/
theorem due_run (ty : TypeId) (w : World) (x : Ct) (hx : x.done ≤ x.L.length) (hl : x.L.length ≤ 900) (g cap : Nat) (hc : x.L.length ≤ cap) (own : w.ownsRow 0 61 4 (.slice (some ⟨g, 0, none⟩) x.L.length cap) x.L.length (crow x.L)) :
    ∃ d w2, (Builtin.append_ #[49, 49] ty #[.slice none 0 0, .slice (if cap = x.done then some ⟨g, 0, none⟩ else some ⟨g, x.done * 4, none⟩) (x.L.length - x.done) (cap - x.done)]).run Tryd.prog w = .ok d w2 ∧ w2.ownsRow w.heap.size 61 4 d x.due.length (crow x.due) ∧ w.grownBy w2 none := by
  obtain ⟨i, hi, hz, hs, hb⟩ := info_parts Tryd.infoCase
  have hd : x.due.length = x.L.length - x.done := List.length_drop
  have R := fun (a : Addr) (hn : ∀ j u, (crow x.due)[j]? = some u → w.cell? (a.add j) = some u) => run_append_own_at (P := Tryd.prog) w w.heap.size 49 ty 61 i _ 4 32 Tryd.underlying49 hi hz hs hb rfl (by decide) (.slice none 0 0) 0 [] (World.ownsRow_nil w _ _ _) a (x.L.length - x.done) (cap - x.done) (crow x.due) (by rw [crow_len, hd]) hn (crow_one _) (by simp only [maxLen]; omega) (by omega) (Nat.le_refl _)
  by_cases h : cap = x.done
  · have e : x.due = [] := List.eq_nil_of_length_eq_zero (by omega)
    obtain ⟨d, w2, r, o, gr, _⟩ := R ⟨g, 0, none⟩ (fun j u hu => by rw [e] at hu; simp [crow] at hu)
    rw [if_pos h]
    rw [Nat.zero_add, ← hd] at o
    exact ⟨d, w2, r, o, gr⟩
  · obtain ⟨d, w2, r, o, gr, _⟩ := R ⟨g, x.done * 4, none⟩ (fun j u hu => by
      have hadd : (⟨g, x.done * 4, none⟩ : Addr).add j = ⟨g, x.done * 4 + j, none⟩ := by unfold Addr.add; split <;> simp_all
      have hj := (List.getElem?_eq_some_iff.1 hu).1
      rw [crow_len, hd] at hj
      rw [hadd]
      refine (own.cellAt _ (by omega)).trans ?_
      unfold Ct.due at hu
      rw [crow_drop, List.getElem?_drop] at hu
      exact hu)
    rw [if_neg h]
    rw [Nat.zero_add, ← hd] at o
    exact ⟨d, w2, r, o, gr⟩
/-- all is asked for -/
theorem RCtAt.askedAt {w w2 : World} {cb : Nat} {v : Value} {x : Ct} (h : RCtAt w cb v x) (hg : w.grownBy w2 none) : RCtAt (w2.setCell ⟨cb, 1, none⟩ (.int .i64 x.L.length)) cb v x.asked := by
  have hK1 : KeptP (fun _ => False) w w2 := ⟨hg.os, hg.tape, hg.output, hg.size, fun k hk _ => hg.block k hk fun e => by cases e⟩
  have h2 := h.keptP hK1 (fun g => g) (fun _ _ g => g)
  have hK2 : KeptP (fun k => k = cb) w2 (w2.setCell ⟨cb, 1, none⟩ (.int .i64 x.L.length)) := KeptP.setCell (F := fun k => k = cb) (KeptP.refl _ _) (p := ⟨cb, 1, none⟩) rfl _
  refine ⟨?_, World.cell?_setCell_same _ _ _ h2.c1, ?_, ?_, ownsRow_keptP h2.own hK2 (fun k e z => h2.tv (z ▸ e)), h2.tv⟩
  · rw [World.cell?_setCell_other _ _ _ _ (by simp)]; exact h2.c0
  · rw [World.frozen?_setCell]; exact h2.f0
  · rw [World.frozen?_setCell]; exact h2.f1
set_option maxRecDepth 100000 in
set_option maxHeartbeats 2000000 in
theorem rc_due (F : Nat → Prop) (cb : Nat) (x : Ct) (hx : x.Ok) (hl : x.L.length ≤ 900) (w : World) (h : RCt F w cb x) :
    Calls Tryd.prog 30 #[.pointer (some ⟨cb, 0, none⟩)] w fun e w' => ∃ d, e = .returned d ∧ w'.ownsRow w.heap.size 61 4 d x.due.length (crow x.due) ∧ RCt F w' cb x.asked ∧ KeptP F w w' := by
  obtain ⟨v, hF, h⟩ := h
  have hle := hx.le
  have lc := cell_lt h.c0
  have hd : RCtAt w.drew cb v x := h.keptP (G := fun _ => False) (KeptP.refl _ _).drew (fun g => g) (fun _ _ g => g)
  have HF := hide hF
  have fin : ∀ d w2, w2.ownsRow w.heap.size 61 4 d x.due.length (crow x.due) → w.drew.grownBy w2 none → ((w2.setCell ⟨cb, 1, none⟩ (.int .i64 x.L.length)).ownsRow w.heap.size 61 4 d x.due.length (crow x.due) ∧ RCt F (w2.setCell ⟨cb, 1, none⟩ (.int .i64 x.L.length)) cb x.asked ∧ KeptP F w (w2.setCell ⟨cb, 1, none⟩ (.int .i64 x.L.length))) := fun d w2 o g => by
    have hK1 : KeptP (fun _ => False) w.drew w2 := ⟨g.os, g.tape, g.output, g.size, fun k hk _ => g.block k hk fun e => by cases e⟩
    exact ⟨ownsRow_setCell_below o (a := ⟨cb, 1, none⟩) lc _, ⟨v, HF.out, hd.askedAt g⟩, (((KeptP.refl F w).drew).trans hK1 fun _ _ z => z.elim).setCell (p := ⟨cb, 1, none⟩) ((HF.out cb).2 (.inl rfl)) _⟩
  have c0 := h.c0
  have c1 := h.c1
  clear hF
  rcases h.own.2 with ⟨rfl, h0⟩ | ⟨g, cap, cur, rfl, _, _, hcap, hmax, _⟩
  · have e : x.L = [] := List.eq_nil_of_length_eq_zero h0
    have e0 : x.done = 0 := by omega
    have ed : x.due = [] := by unfold Ct.due; rw [e]; simp
    have FN := hide (fin (.slice none 0 0) w.drew (by rw [ed]; exact World.ownsRow_nil _ _ _ _) ⟨rfl, rfl, rfl, Nat.le_refl _, fun _ _ _ => rfl⟩)
    rw [h0] at FN
    have f1 := hd.f1
    rw [e0] at c1
    clear fin hle hd
    go_enter Tryd.func30, Tryd.ntmps30
    go_wp2_with fail
    go_region_law ((refine step_append_by rfl (.tmp 4) (.tmp 13) 49 rfl (.slice none 0 0) (.slice none 0 0) (by rfl) (by rfl) _ _ (nil_nil_run _ _) ?_))
    all_goals
      go_wp2_with fail
      go_ret
      exact ⟨_, rfl, FN.out⟩
  · obtain ⟨d, w2, hr, ho, hg⟩ := due_run 49 w.drew x hle hl g cap hcap hd.own
    have FN := hide (fin d w2 ho hg)
    have d0 : w2.cell? ⟨cb, 0, none⟩ = some (.slice (some ⟨g, 0, none⟩) x.L.length cap) := (hg.cell_far ⟨cb, 0, none⟩ lc (by simp)).trans c0
    have d1 : w2.cell? ⟨cb, 1, none⟩ = some (.int .i64 x.done) := (hg.cell_far ⟨cb, 1, none⟩ lc (by simp)).trans c1
    have f1 : w2.frozen? ⟨cb, 1, none⟩ = false := (hg.frozen_far ⟨cb, 1, none⟩ lc (by simp)).trans hd.f1
    simp only [maxLen] at hmax
    clear fin hd ho hg
    go_enter Tryd.func30, Tryd.ntmps30
    go_wp2_with fail
    go_region_law ((refine step_append_by rfl (.tmp 4) (.tmp 13) 49 rfl (.slice none 0 0) (.slice (if cap = x.done then some ⟨g, 0, none⟩ else some ⟨g, x.done * 4, none⟩) (x.L.length - x.done) (cap - x.done)) (by rfl) (by rfl) d w2 hr ?_))
    all_goals
      go_wp2_with fail
      all_goals
        go_ret
        exact ⟨_, rfl, FN.out⟩
end Go.Proofs.YtamjnkjgdaojiaaDoor
