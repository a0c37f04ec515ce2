/-
  Draws by weight, plainly: the steps to their end; bounds.
-/
import Derived.Test.YtlhffdmhbplpjaaDoorDrawMath
namespace Go.Proofs.YtlhffdmhbplpjaaDoor

/-- so many steps, or as many as there are -/
def DS.go (H : Int) : Nat → DS → DS
  | 0, d => d
  | m + 1, d => match d.small, d.great with
    | s :: ss, g :: gs => DS.go H m (d.next H s g ss gs)
    | _, _ => d
theorem DS.go_step (H : Int) (m : Nat) (d : DS) {s g : Nat} {ss gs : List Nat} (es : d.small = s :: ss) (eg : d.great = g :: gs) : d.go H (m + 1) = (d.next H s g ss gs).go H m := by
  show (match d.small, d.great with | s :: ss, g :: gs => DS.go H m (d.next H s g ss gs) | _, _ => d) = _
  rw [es, eg]
theorem DS.go_end (H : Int) (m : Nat) (d : DS) (h : d.small = [] ∨ d.great = []) : d.go H m = d := by
  cases m with
  | zero => rfl
  | succ m =>
    show (match d.small, d.great with | s :: ss, g :: gs => DS.go H m (d.next H s g ss gs) | _, _ => d) = _
    rcases h with h | h
    · rw [h]
    · rw [h]; cases d.small <;> rfl
theorem go_inv {n : Nat} {H : Int} {w : Nat → Int} : ∀ (m : Nat) (d : DS), DInv n H w d → DInv n H w (d.go H m)
  | 0, _, I => I
  | m + 1, d, I => by
    match es : d.small, eg : d.great with
    | s :: ss, g :: gs => rw [DS.go_step H m d es eg]; exact go_inv m _ (I.next es eg)
    | [], _ => rw [DS.go_end H _ d (.inl es)]; exact I
    | _ :: _, [] => rw [DS.go_end H _ d (.inr eg)]; exact I
theorem go_over (H : Int) : ∀ (m : Nat) (d : DS), d.left ≤ m → (d.go H m).small = [] ∨ (d.go H m).great = []
  | 0, d, h => .inl (by
    unfold DS.left at h
    have : d.small ++ d.great = [] := List.eq_nil_of_length_eq_zero (by omega)
    exact (List.append_eq_nil_iff.1 this).1)
  | m + 1, d, h => by
    match es : d.small, eg : d.great with
    | s :: ss, g :: gs =>
      rw [DS.go_step H m d es eg]
      have := next_left H d s g ss gs es eg
      exact go_over H m _ (by omega)
    | [], _ => rw [DS.go_end H _ d (.inl es)]; exact .inl es
    | _ :: _, [] => rw [DS.go_end H _ d (.inr eg)]; exact .inr eg

/-- the columns of these weights -/
def dend (n : Nat) (w : Nat → Int) : DS := (dstart n (sumTo w n) w).go (sumTo w n) (dstart n (sumTo w n) w).left
theorem dend_inv (n : Nat) (w : Nat → Int) (hw : ∀ k, k < n → 0 ≤ w k) : DInv n (sumTo w n) w (dend n w) := go_inv _ _ (dinv_start n w hw)
theorem dend_just (n : Nat) (w : Nat → Int) (hw : ∀ k, k < n → 0 ≤ w k) (k : Nat) (hk : k < n) : (dend n w).line k + inflow (sumTo w n) (dend n w).line (dend n w).other n k = w k * n :=
  (dend_inv n w hw).just (go_over _ _ _ (Nat.le_refl _)) k hk

theorem DInv.line_bd {n : Nat} {H : Int} {w : Nat → Int} {d : DS} (I : DInv n H w d) (hH : 0 ≤ H) (k : Nat) (hk : k < n) : 0 ≤ d.line k ∧ d.line k ≤ H ∧ d.other k < n := by
  by_cases m : k ∈ d.small ++ d.great
  · have := I.open' k m
    rw [this.1, this.2]
    exact ⟨hH, Int.le_refl _, hk⟩
  · have := I.done k hk m
    exact ⟨this.1, by omega, this.2.2⟩
theorem DInv.rest_le {n : Nat} {H : Int} {w : Nat → Int} {d : DS} (I : DInv n H w d) (hH : 0 ≤ H) (k : Nat) (hk : k ∈ d.small ++ d.great) : d.rest k ≤ w k * n := by
  have hc := I.count k (I.lt k hk)
  rw [if_pos hk] at hc
  have : 0 ≤ inflow H d.line d.other n k := sumTo_nonneg _ n (fun i hi => by
    have := I.line_bd hH i hi
    show 0 ≤ if d.other i = k then H - d.line i else 0
    split <;> omega)
  omega
theorem DInv.rest_nonneg {n : Nat} {H : Int} {w : Nat → Int} {d : DS} (I : DInv n H w d) (hH : 0 ≤ H) (k : Nat) (hk : k ∈ d.small ++ d.great) : 0 ≤ d.rest k := by
  rcases List.mem_append.1 hk with h | h
  · exact (I.sm k h).1
  · have := I.gr k h; omega

/-- weights that may be drawn by -/
structure Weights (n : Nat) (w : Nat → Int) : Prop where
  n1 : 1 ≤ n
  n64 : n ≤ 64
  bd : ∀ k, k < n → 0 ≤ w k ∧ w k ≤ 1073741824
theorem sumTo_bd {w : Nat → Int} : ∀ n, (∀ k, k < n → 0 ≤ w k ∧ w k ≤ 1073741824) → 0 ≤ sumTo w n ∧ sumTo w n ≤ 1073741824 * n
  | 0, _ => ⟨Int.le_refl _, Int.le_refl _⟩
  | n + 1, h => by
    have ih := sumTo_bd n (fun k hk => h k (by omega))
    have := h n (by omega)
    show 0 ≤ sumTo w n + w n ∧ sumTo w n + w n ≤ _
    omega
theorem Weights.sum {n : Nat} {w : Nat → Int} (h : Weights n w) : 0 ≤ sumTo w n ∧ sumTo w n ≤ 68719476736 := by
  have := sumTo_bd n h.bd
  have := h.n64
  omega
theorem Weights.times {n : Nat} {w : Nat → Int} (h : Weights n w) (k : Nat) (hk : k < n) : 0 ≤ w k * n ∧ w k * n ≤ 68719476736 := by
  have hb := h.bd k hk
  have hn := h.n64
  refine ⟨Int.mul_nonneg hb.1 (by omega), ?_⟩
  have h1 : w k * (n : Int) ≤ 1073741824 * (n : Int) := Int.mul_le_mul_of_nonneg_right hb.2 (by omega)
  omega
end Go.Proofs.YtlhffdmhbplpjaaDoor
