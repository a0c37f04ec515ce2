/-
  The program's court by its contracts: evidence is brought.
-/
import Derived.Test.YtaihcceobnfmhaaDoorProgCourt
import Derived.Test.YtaihcceobnfmhaaDoorSentVX
import Derived.Deep.AppendLies
import Derived.Deep.RegionLaw
import Derived.Deep.DeepCutAuto
import Derived.Deep.QuietTactic
import Derived.BigQuiet
namespace Go.Proofs.YtaihcceobnfmhaaDoor
open Go.RowKit

theorem ctb_yes (b : Int) (h0 : 0 ≤ b) (h3 : b < 3) (w : World) :
    Calls Tryd.prog 39 #[.int .i64 b] w fun e w' => e = .returned (.bool true) ∧ w' = w := by
  go_enter Tryd.func39, Tryd.ntmps39
  go_wp2
  go_ret
  exact ⟨rfl, rfl⟩
theorem ctb_no (b : Int) (h : ¬ (0 ≤ b ∧ b < 3)) (w : World) :
    Calls Tryd.prog 39 #[.int .i64 b] w fun e w' => e = .returned (.bool false) ∧ w' = w := by
  by_cases h0 : 0 ≤ b
  · have h3 : ¬ b < 3 := by omega
    clear h
    go_enter Tryd.func39, Tryd.ntmps39
    go_wp2
    go_ret
    exact ⟨rfl, rfl⟩
  · clear h
    go_enter Tryd.func39, Tryd.ntmps39
    go_wp2
    go_ret
    exact ⟨rfl, rfl⟩
theorem cty_yes (c : Int) (h0 : 0 ≤ c) (h1 : c ≤ 1048576) (w : World) :
    Calls Tryd.prog 46 #[.int .i64 c] w fun e w' => e = .returned (.bool true) ∧ w' = w := by
  go_enter Tryd.func46, Tryd.ntmps46
  go_wp2
  go_ret
  exact ⟨rfl, rfl⟩
theorem cty_no (c : Int) (h : ¬ (0 ≤ c ∧ c ≤ 1048576)) (w : World) :
    Calls Tryd.prog 46 #[.int .i64 c] w fun e w' => e = .returned (.bool false) ∧ w' = w := by
  by_cases h0 : 0 ≤ c
  · have h3 : ¬ c ≤ 1048576 := by omega
    clear h
    go_enter Tryd.func46, Tryd.ntmps46
    go_wp2
    go_ret
    exact ⟨rfl, rfl⟩
  · clear h
    go_enter Tryd.func46, Tryd.ntmps46
    go_wp2
    go_ret
    exact ⟨rfl, rfl⟩

/-- what comes of it -/
def AccEnd (F : Nat → Prop) (cb : Nat) (x : Ct) (g : Nat) (o : Int) (e : Ev) (c : Int) (A : Nat → Addr) (w : World) (en : Ending) (w' : World) : Prop :=
  ∃ ev F', en = .returned ev ∧ ErrIs A ev (x.accC o e c) ∧ PCt F' w' cb (x.acc o e c) (g + 4) ∧ Moved F F' w w'
theorem acc_no {F : Nat → Prop} {cb g : Nat} {x : Ct} {o c : Int} {e : Ev} {A : Nat → Addr} {w w' : World} (h : PCt F w cb x g) (i : Nat) (hi : i < 10) (hc : x.accC o e c = i + 1) (hB : Below w.heap.size w w') : AccEnd F cb x g o e c A w (.returned (sent (A i))) w' := by
  have ha : x.acc o e c = x := if_neg (by omega)
  refine ⟨_, F, rfl, .inr ⟨i, hi, hc, rfl⟩, ?_, KeptP.of_below hB, fun _ _ q => q⟩
  rw [ha]
  exact (h.keptP (KeptP.of_below (F := fun _ => False) hB) fun _ q => q.elim).more (by omega)
theorem accC_bound {x : Ct} {o c : Int} {e : Ev} (h : ¬ AccIn o e c) : x.accC o e c = 2 := if_pos h
theorem accC_old {x : Ct} {o c : Int} {e : Ev} (h : AccIn o e c) (k : ¬ AccNow e c) : x.accC o e c = 10 := by
  unfold Ct.accC; rw [if_neg (not_not_intro h), if_pos k]
theorem accC_seen {x : Ct} {o c : Int} {e : Ev} (h : AccIn o e c) (k : AccNow e c) (s : x.seen e = true) : x.accC o e c = 5 := by
  unfold Ct.accC; rw [if_neg (not_not_intro h), if_neg (not_not_intro k), if_pos s]
theorem accC_new {x : Ct} {o c : Int} {e : Ev} (h : AccIn o e c) (k : AccNow e c) (s : x.seen e = false) : x.accC o e c = 0 := by
  unfold Ct.accC; rw [if_neg (not_not_intro h), if_neg (not_not_intro k), s]; rfl

theorem Tryd.infoCaseP : (Tryd.prog.info? 91).map (fun i => (i.zero, i.size, i.bytes)) = some (some (.agg #[.int .i64 0, .int .i64 0, .int .i64 0, .int .i64 0]), 4, 32) := by kernel_rfl
/-- a case more -/
theorem acc_placed {w1 w2 : World} {cb q g : Nat} {v : Value} {x : Ct} (t : Cs) (hx : x.Ok) (c0 : w1.cell? ⟨cb, 0, none⟩ = some (.map (some q))) (c1 : w1.cell? ⟨cb, 1, none⟩ = some v) (f1 : w1.frozen? ⟨cb, 1, none⟩ = false)
    (own : OwnE w1 q (fun e => decide (e = t.2) || x.seen e) g) (tv : v.ownBlock ≠ some cb) (tm : v.ownBlock ≠ some q) (ne : q ≠ cb) (wfs : ∀ u, u ∈ x.L → EvWf u.2) (ht : EvWf t.2) {b cap : Nat}
    (hown : w2.ownsRow 0 91 4 (.slice (some ⟨b, 0, none⟩) (x.due.length + 1) cap) (x.due.length + 1) (crow x.due ++ [.int .i64 t.1, .int .i64 t.2.1, .int .i64 t.2.2.1, .int .i64 t.2.2.2])) (hg : w1.grownBy w2 v.ownBlock) (hat : v.ownBlock = some b ∨ w1.heap.size ≤ b) :
    PCtAt (w2.setCell ⟨cb, 1, none⟩ (.slice (some ⟨b, 0, none⟩) (x.due.length + 1) cap)) cb q (.slice (some ⟨b, 0, none⟩) (x.due.length + 1) cap) ⟨x.L ++ [t], x.done⟩ g := by
  have hK1 : KeptP (fun k => v.ownBlock = some k) w1 w2 := ⟨hg.os, hg.tape, hg.output, hg.size, fun k hk z => hg.block k hk fun e => z e.symm⟩
  have lc := cell_lt c0
  have lq := own.lt
  have bc : b ≠ cb := by
    rcases hat with a | a
    · exact fun e => tv (e ▸ a)
    · exact fun e => by subst e; exact absurd lc (Nat.not_lt.2 a)
  have bq : b ≠ q := by
    rcases hat with a | a
    · exact fun e => tm (e ▸ a)
    · exact fun e => by subst e; exact absurd lq (Nat.not_lt.2 a)
  have hK2 : KeptP (fun k => k = cb) w2 (w2.setCell ⟨cb, 1, none⟩ (.slice (some ⟨b, 0, none⟩) (x.due.length + 1) cap)) := KeptP.setCell (F := fun k => k = cb) (KeptP.refl _ _) (p := ⟨cb, 1, none⟩) rfl _
  have dd : (⟨x.L ++ [t], x.done⟩ : Ct).due = x.due ++ [t] := by
    show (x.L ++ [t]).drop x.done = x.L.drop x.done ++ [t]
    exact List.drop_append_of_le_length hx.le
  refine ⟨?_, World.cell?_setCell_same _ _ _ (hK1.old c1 tv), ?_, ?_, ?_, fun e => ?_, fun e => ?_, ne, fun u hu => ?_⟩
  · rw [World.cell?_setCell_other _ _ _ _ (by simp)]; exact hK1.old c0 tv
  · rw [World.frozen?_setCell, hK1.frozen (p := ⟨cb, 1, none⟩) lc tv]; exact f1
  · refine ((own.of_block (hK1.block q lq tm)).of_block (hK2.block q (Nat.lt_of_lt_of_le lq hK1.size) ne)).congr fun e _ => ?_
    show (decide (e = t.2) || x.L.any fun u => decide (u.2 = e)) = (x.L ++ [t]).any fun u => decide (u.2 = e)
    rw [List.any_append, Bool.or_comm]
    simp [eq_comm]
  · rw [dd, List.length_append, crow_append]
    exact ownsRow_keptP hown hK2 fun k e => by cases e; exact bc
  · cases e; exact bc rfl
  · cases e; exact bq rfl
  · rcases List.mem_append.1 (show u ∈ x.L ++ [t] from hu) with z | z
    · exact wfs u z
    · rw [List.mem_singleton.1 z]; exact ht
end Go.Proofs.YtaihcceobnfmhaaDoor
