/-
  The law DrawJust, whatever comes in.
-/
import Derived.Test.YtlhffdmhbplpjaaDoorJustWalk
import Derived.Test.YtlhffdmhbplpjaaDoorIntsIn
namespace Go.Proofs.YtlhffdmhbplpjaaDoor
open Go.RowKit

/-- weights, case by case -/
theorem weights_cases (n : Nat) (W : Nat → Int) : (∃ k, k < n ∧ (∀ i, i < k → WOk (W i)) ∧ ¬ WOk (W k)) ∨ (∀ i, i < n → WOk (W i)) := by
  induction n with
  | zero => exact .inr (fun i hi => by omega)
  | succ n ih =>
    rcases ih with ⟨k, hk, h1, h2⟩ | h
    · exact .inl ⟨k, by omega, h1, h2⟩
    · by_cases e : WOk (W n)
      · exact .inr (fun i hi => by
          by_cases g : i < n
          · exact h i g
          · obtain rfl : i = n := by omega
            exact e)
      · exact .inl ⟨n, by omega, h, e⟩

theorem drawJust_walk (a : Option Addr) (len cap : Nat) (A : Nat → Addr) (w : World) (hL : DrawLaid w A) (sl : IsInts w a len cap) :
    Calls Tryd.prog 12 #[.slice a len cap] w fun e w' => e = .returned (.bool true) ∧ Below w.heap.size w w' := by
  rcases Nat.eq_zero_or_pos len with rfl | h0
  · refine just_err a 0 cap w (by omega) (fun w' hB => (ownInts_none a cap w').mono ?_)
    rintro e w2 ⟨rfl, rfl⟩
    refine ⟨_, rfl, hB, (new_hands _ _ (fun _ x => Below w.heap.size w x) ((together_shape none 0 0 A _ (hL.below hB) (.inl rfl) (by omega)).mono ?_)).mono (fun e x h => h)⟩
    rintro e w3 ⟨rfl, hB3⟩
    exact ⟨_, _, rfl, hB.trans (hB3.mono hB.size)⟩
  · rcases sl with rfl | ⟨b, off, W, rfl, hb, hcap, hm, hI, _⟩
    · omega
    by_cases h64 : len ≤ 64
    · have own : ∀ w', Below w.heap.size w w' → Calls Tryd.prog 51 #[.slice (some ⟨b, off, none⟩) len cap] w' fun e w' => ∃ m cap', e = .returned (.slice (some ⟨m, 0, none⟩) len cap') ∧ m < w'.heap.size ∧ Ints w' m 0 len W ∧ Below w.heap.size w w' := fun w' hB =>
        (ownInts_some b off len cap W w' (hI.below hB hb) h0 (by omega)).mono (fun e x h => by
          obtain ⟨m, c, h1, h2, h3, h4⟩ := h
          exact ⟨m, c, h1, h2, h3, hB.trans (h4.mono hB.size)⟩)
      rcases weights_cases len W with ⟨k, hk, h1, h2⟩ | hall
      · refine just_err _ len cap w h64 (fun w' hB => (own w' hB).mono ?_)
        rintro e w2 ⟨m, c, rfl, hm2, hI2, hB2⟩
        refine ⟨_, rfl, hB2, (new_hands _ _ (fun _ x => Below w.heap.size w x) ((together_bad m 0 len c k W A w2 (hL.below hB2) hI2 h0 h64 hk h1 h2).mono ?_)).mono (fun e x h => h)⟩
        rintro e w3 ⟨q, rfl, _, _, hB3⟩
        exact ⟨_, _, rfl, hB2.trans (hB3.mono hB2.size)⟩
      · by_cases hs : sumTo W len = 0
        · refine just_err _ len cap w h64 (fun w' hB => (own w' hB).mono ?_)
          rintro e w2 ⟨m, c, rfl, hm2, hI2, hB2⟩
          refine ⟨_, rfl, hB2, (new_hands _ _ (fun _ x => Below w.heap.size w x) ((together_none m 0 len c W A w2 (hL.below hB2) hI2 ⟨h0, h64, hall⟩ hs).mono ?_)).mono (fun e x h => h)⟩
          rintro e w3 ⟨rfl, hB3⟩
          exact ⟨_, _, rfl, hB2.trans (hB3.mono hB2.size)⟩
        · exact just_fine b off len cap W w hI hb ⟨h0, h64, hall⟩ hs
    · exact just_more _ len cap w (by omega) (by omega)
end Go.Proofs.YtlhffdmhbplpjaaDoor
