/-
  The law DrawColumns, whatever comes in.
-/
import Derived.Test.YtlhffdmhbplpjaaDoorColumnsWalk
import Derived.Test.YtlhffdmhbplpjaaDoorIntsIn
namespace Go.Proofs.YtlhffdmhbplpjaaDoor
open Go.RowKit

/-- weights, case by case: the first that may not be, or none -/
theorem weights_first (n : Nat) (W : Nat → Int) : (∃ k, k < n ∧ (∀ i, i < k → WOk (W i)) ∧ ¬ WOk (W k)) ∨ (∀ i, i < n → WOk (W i)) := by
  induction n with
  | zero => exact .inr (fun i hi => by omega)
  | succ n ih =>
    rcases ih with ⟨k, hk, h1, h2⟩ | h
    · exact .inl ⟨k, by omega, h1, h2⟩
    · by_cases e : WOk (W n)
      · exact .inr (fun i hi => by
          by_cases g : i < n
          · exact h i g
          · obtain rfl : i = n := by omega
            exact e)
      · exact .inl ⟨n, by omega, h, e⟩

theorem drawColumns_walk (a : Option Addr) (len cap : Nat) (c x : Int) (A : Nat → Addr) (w : World) (hL : Laid w A) (sl : IsInts w a len cap) :
    Calls Tryd.prog 11 #[.slice a len cap, .int .i64 c, .int .i64 x] w fun e w' => e = .returned (.bool true) ∧ Below w.heap.size w w' := by
  rcases Nat.eq_zero_or_pos len with rfl | h0
  · refine cols_err a 0 cap c x w (by omega) 3 (-1) (by omega) (fun w' hB => (ownInts_none a cap w').mono ?_) (fun w' _ => wf_shape a 0 cap w' (.inl rfl) (by omega))
    rintro e w2 ⟨rfl, rfl⟩
    refine ⟨_, rfl, hB, (new_hands _ _ (fun e x => Below w.heap.size w x ∧ Tells x e 3 (-1)) ((together_shape none 0 0 A _ (hL.below hB).draw (.inl rfl) (by omega)).mono ?_)).mono (fun e x h => h)⟩
    rintro e w3 ⟨rfl, hB3⟩
    exact ⟨_, _, rfl, hB.trans (hB3.mono hB.size), tells_sent (hL.below (hB.trans (hB3.mono hB.size))) 2 (by omega)⟩
  · rcases sl with rfl | ⟨b, off, W, rfl, hb, hcap, hm, hI, _⟩
    · omega
    by_cases h100 : len ≤ 100
    · have own : ∀ w', Below w.heap.size w w' → Calls Tryd.prog 51 #[.slice (some ⟨b, off, none⟩) len cap] w' fun e w' => ∃ m cap', e = .returned (.slice (some ⟨m, 0, none⟩) len cap') ∧ m < w'.heap.size ∧ Ints w' m 0 len W ∧ Below w.heap.size w w' := fun w' hB =>
        (ownInts_some b off len cap W w' (hI.below hB hb) h0 (by omega)).mono (fun e x h => by
          obtain ⟨m, c, h1, h2, h3, h4⟩ := h
          exact ⟨m, c, h1, h2, h3, hB.trans (h4.mono hB.size)⟩)
      by_cases h64 : len ≤ 64
      · rcases weights_first len W with ⟨k, hk, h1, h2⟩ | hall
        · refine cols_err _ len cap c x w h100 2 k (by omega) (fun w' hB => (own w' hB).mono ?_) (fun w' hB => wf_bad b off len cap k W w' (hI.below hB hb) h0 h64 hk h1 h2)
          rintro e w2 ⟨m, c', rfl, hm2, hI2, hB2⟩
          refine ⟨_, rfl, hB2, (new_hands _ _ (fun e x => Below w.heap.size w x ∧ Tells x e 2 k) ((together_bad m 0 len c' k W A w2 (hL.below hB2).draw hI2 h0 h64 hk h1 h2).mono ?_)).mono (fun e x h => h)⟩
          rintro e w3 ⟨q, rfl, c0, c1, hB3⟩
          exact ⟨_, _, rfl, hB2.trans (hB3.mono hB2.size), tells_flt (hL.below (hB2.trans (hB3.mono hB2.size))) q 1 k (by omega) c0 c1⟩
        · by_cases hs : sumTo W len = 0
          · refine cols_err _ len cap c x w h100 4 (-1) (by omega) (fun w' hB => (own w' hB).mono ?_) (fun w' hB => wf_fine b off len cap W w' (hI.below hB hb) ⟨h0, h64, hall⟩ 4 (.inl ⟨rfl, hs⟩))
            rintro e w2 ⟨m, c', rfl, hm2, hI2, hB2⟩
            refine ⟨_, rfl, hB2, (new_hands _ _ (fun e x => Below w.heap.size w x ∧ Tells x e 4 (-1)) ((together_none m 0 len c' W A w2 (hL.below hB2).draw hI2 ⟨h0, h64, hall⟩ hs).mono ?_)).mono (fun e x h => h)⟩
            rintro e w3 ⟨rfl, hB3⟩
            exact ⟨_, _, rfl, hB2.trans (hB3.mono hB2.size), tells_sent (hL.below (hB2.trans (hB3.mono hB2.size))) 3 (by omega)⟩
          · exact cols_fine b off len cap W c x A w hL hI hb ⟨h0, h64, hall⟩ hs
      · refine cols_err _ len cap c x w h100 3 (-1) (by omega) (fun w' hB => (own w' hB).mono ?_) (fun w' _ => wf_shape _ len cap w' (.inr (by omega)) (by omega))
        rintro e w2 ⟨m, c', rfl, hm2, hI2, hB2⟩
        refine ⟨_, rfl, hB2, (new_hands _ _ (fun e x => Below w.heap.size w x ∧ Tells x e 3 (-1)) ((together_shape _ len c' A w2 (hL.below hB2).draw (.inr (by omega)) (by omega)).mono ?_)).mono (fun e x h => h)⟩
        rintro e w3 ⟨rfl, hB3⟩
        exact ⟨_, _, rfl, hB2.trans (hB3.mono hB2.size), tells_sent (hL.below (hB2.trans (hB3.mono hB2.size))) 2 (by omega)⟩
    · exact cols_more _ len cap c x w (by omega) (by omega)
end Go.Proofs.YtlhffdmhbplpjaaDoor
