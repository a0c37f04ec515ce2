/-
  Rights, plainly: who has a turn; that it is one alone, and has weight.
-/
import Derived.Test.YtlhffdmhbplpjabDoorDrawPick
import Derived.Test.YtlhffdmhbplpjabDoorLotsPlain
namespace Go.Proofs.YtlhffdmhbplpjabDoor

def tri (a b c : Int) : Nat → Int
  | 0 => a
  | 1 => b
  | _ => c
abbrev TurnOk (c l r : Int) : Prop := (0 ≤ c ∧ c ≤ 1048576) ∧ (0 ≤ l ∧ l ≤ 4194304) ∧ 0 ≤ r ∧ r < 8
/-- k has the turn -/
def Turn (n : Nat) (W : Nat → Int) (seed : Nat) (c l r : Int) (k : Int) : Prop := ∃ v1 t1 v2 t2, Bel n (mixTo (tri c l r) seed 3) v1 t1 ∧ Bel (sumTo W n).toNat t1 v2 t2 ∧ k = (dend n W).pick v1 v2
theorem Turn.one {n : Nat} {W : Nat → Int} {seed : Nat} {c l r k k' : Int} (h : Turn n W seed c l r k) (g : Turn n W seed c l r k') : k = k' := by
  obtain ⟨v1, t1, v2, t2, a, b, rfl⟩ := h
  obtain ⟨u1, s1, u2, s2, a', b', rfl⟩ := g
  obtain ⟨rfl, rfl⟩ := a.one a'
  obtain ⟨rfl, rfl⟩ := b.one b'
  rfl
theorem sumTo_one_le (f : Nat → Int) (hf : ∀ i, 0 ≤ f i) (k : Nat) : ∀ n, k < n → f k ≤ sumTo f n
  | 0, h => by omega
  | n + 1, h => by
    show _ ≤ sumTo f n + f n
    have h1 := sumTo_nonneg f n (fun i _ => hf i)
    by_cases e : k = n
    · subst e; omega
    · have := sumTo_one_le f hf k n (by omega)
      have := hf n
      omega
/-- who is picked has weight -/
theorem pick_heavy {n : Nat} {W : Nat → Int} (hW : Weights n W) (v : Nat) (x : Int) (hv : v < n) (h0 : 0 ≤ x) (h1 : x < sumTo W n) : ∃ k : Nat, (dend n W).pick v x = k ∧ k < n ∧ W k ≠ 0 := by
  have I := dend_inv n W (fun k hk => (hW.bd k hk).1)
  have bd := fun k hk => I.line_bd (by omega) k hk
  obtain ⟨b0, b1, b2⟩ := bd v hv
  have n1 := hW.n1
  unfold DS.pick
  split
  · rename_i hlt
    refine ⟨v, rfl, hv, fun e => ?_⟩
    have j := dend_just n W (fun k hk => (hW.bd k hk).1) v hv
    rw [e, Int.zero_mul] at j
    have := sumTo_nonneg (fun j => if (dend n W).other j = v then sumTo W n - (dend n W).line j else 0) n (fun i hi => by
      show 0 ≤ ite _ _ _
      split
      · have := (bd i hi).2.1; omega
      · exact Int.le_refl _)
    have f : 0 ≤ inflow (sumTo W n) (dend n W).line (dend n W).other n v := this
    omega
  · rename_i hge
    refine ⟨(dend n W).other v, rfl, b2, fun e => ?_⟩
    have j := dend_just n W (fun k hk => (hW.bd k hk).1) _ b2
    rw [e, Int.zero_mul] at j
    have l0 := (bd _ b2).1
    have g : sumTo W n - (dend n W).line v ≤ inflow (sumTo W n) (dend n W).line (dend n W).other n ((dend n W).other v) := by
      have u : sumTo (fun j => if (dend n W).other j = (dend n W).other v then sumTo W n - (dend n W).line j else 0) n = sumTo (fun j => if j < n then (if (dend n W).other j = (dend n W).other v then sumTo W n - (dend n W).line j else 0) else 0) n := sumTo_congr n fun i hi => by rw [if_pos hi]
      have s := sumTo_one_le (fun j => if j < n then (if (dend n W).other j = (dend n W).other v then sumTo W n - (dend n W).line j else 0) else 0) (fun i => by
        show 0 ≤ ite _ _ _
        split
        · rename_i hi
          split
          · have := (bd i hi).2.1; omega
          · exact Int.le_refl _
        · exact Int.le_refl _) v n hv
      simp only [hv, if_true] at s
      unfold inflow
      rw [u]
      exact s
    omega
theorem Turn.heavy {n : Nat} {W : Nat → Int} (hW : Weights n W) (h0 : sumTo W n ≠ 0) {seed : Nat} {c l r k : Int} (h : Turn n W seed c l r k) : ∃ j : Nat, k = j ∧ j < n ∧ W j ≠ 0 := by
  obtain ⟨v1, t1, v2, t2, a, b, rfl⟩ := h
  have s := hW.sum
  have n1 := hW.n1
  have hv1 := (a.lt (by omega)).1
  have hv2 := (b.lt (by omega)).1
  exact pick_heavy hW v1 v2 hv1 (by omega) (by omega)
end Go.Proofs.YtlhffdmhbplpjabDoor
