/-
  A court, plainly: what was ever brought, in order; so many were asked for.
-/
import Derived.Test.YtamjnkjgdaojiaaDoorQuo
namespace Go.Proofs.YtamjnkjgdaojiaaDoor

/-- evidence: a baker, a cycle, a number -/
abbrev Ev : Type := Int × Int × Int
/-- a case: who brought it, and what -/
abbrev Cs : Type := Int × Ev
structure Ct where
  L : List Cs
  done : Nat
abbrev AccIn (o : Int) (e : Ev) (c : Int) : Prop := (0 ≤ o ∧ o < 6) ∧ (0 ≤ e.1 ∧ e.1 < 3) ∧ 0 ≤ e.2.2 ∧ 0 ≤ c ∧ c ≤ 1048576
abbrev AccNow (e : Ev) (c : Int) : Prop := 0 ≤ e.2.1 ∧ e.2.1 ≤ c ∧ c - 2 ≤ e.2.1
def Ct.seen (x : Ct) (e : Ev) : Bool := x.L.any fun t => decide (t.2 = e)
def Ct.accC (x : Ct) (o : Int) (e : Ev) (c : Int) : Int := if ¬ AccIn o e c then 2 else if ¬ AccNow e c then 10 else if x.seen e then 5 else 0
def Ct.acc (x : Ct) (o : Int) (e : Ev) (c : Int) : Ct := if x.accC o e c = 0 then ⟨x.L ++ [(o, e)], x.done⟩ else x
def Ct.due (x : Ct) : List Cs := x.L.drop x.done
def Ct.asked (x : Ct) : Ct := ⟨x.L, x.L.length⟩
structure Ct.Ok (x : Ct) : Prop where
  le : x.done ≤ x.L.length
  once : (x.L.map (·.2)).Nodup
theorem ct0_ok : (⟨[], 0⟩ : Ct).Ok := ⟨Nat.le_refl _, List.nodup_nil⟩
theorem Ct.seen_iff (x : Ct) (e : Ev) : x.seen e = true ↔ e ∈ x.L.map (·.2) := by
  unfold Ct.seen
  rw [List.any_eq_true, List.mem_map]
  exact ⟨fun ⟨t, h, g⟩ => ⟨t, h, of_decide_eq_true g⟩, fun ⟨t, h, g⟩ => ⟨t, h, decide_eq_true g⟩⟩
theorem Ct.accC_zero {x : Ct} {o : Int} {e : Ev} {c : Int} (h : x.accC o e c = 0) : AccIn o e c ∧ AccNow e c ∧ x.seen e = false := by
  unfold Ct.accC at h
  by_cases h1 : AccIn o e c
  · rw [if_neg (not_not_intro h1)] at h
    by_cases h2 : AccNow e c
    · rw [if_neg (not_not_intro h2)] at h
      cases h3 : x.seen e with
      | false => exact ⟨h1, h2, rfl⟩
      | true => rw [h3] at h; simp at h
    · rw [if_pos h2] at h; omega
  · rw [if_pos h1] at h; omega
theorem Ct.Ok.acc {x : Ct} (h : x.Ok) (o : Int) (e : Ev) (c : Int) : (x.acc o e c).Ok := by
  unfold Ct.acc
  split
  · rename_i hc
    obtain ⟨_, _, hs⟩ := Ct.accC_zero hc
    refine ⟨by show x.done ≤ (x.L ++ [(o, e)]).length; rw [List.length_append]; have := h.le; omega, ?_⟩
    show ((x.L ++ [(o, e)]).map (·.2)).Nodup
    rw [List.map_append]
    refine List.nodup_append.2 ⟨h.once, by simp, fun a ha b hb g => ?_⟩
    have : b = e := by simpa using hb
    subst this
    subst g
    have := (Ct.seen_iff x a).2 ha
    rw [hs] at this
    cases this
  · exact h
theorem Ct.Ok.asked {x : Ct} (h : x.Ok) : x.asked.Ok := ⟨Nat.le_refl _, h.once⟩
/-- what was asked for, and what is due, are all -/
theorem Ct.parts (x : Ct) : x.L.take x.done ++ x.due = x.L := List.take_append_drop _ _
end Go.Proofs.YtamjnkjgdaojiaaDoor
