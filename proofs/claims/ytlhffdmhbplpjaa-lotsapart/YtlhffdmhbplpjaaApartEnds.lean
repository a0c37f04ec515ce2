/-
  The law LotsApart, whatever comes in.
-/
import Derived.Test.YtlhffdmhbplpjaaLotsApartWalk
import Derived.Test.YtlhffdmhbplpjaaIntsIn
import Derived.Test.YtlhffdmhbplpjaaCutInts
namespace Go.Proofs.Ytlhffdmhbplpjaa
open Go.RowKit

theorem owns_none (w : World) (a : Option Addr) (cap : Nat) (W : Nat → Int) : OwnsOf w (.slice a 0 cap) 0 W := fun w' hB => (ownInts_none a cap w').mono fun e w2 h => by
  obtain ⟨rfl, rfl⟩ := h
  exact ⟨none, 0, 0, rfl, fun h => by omega, fun h => by omega, fun i hi => by omega, hB⟩
theorem owns_some (w : World) (b off n cap : Nat) (W : Nat → Int) (hb : b < w.heap.size) (hI : Ints w b off n W) (h0 : 0 < n) (h1 : n ≤ 1000) : OwnsOf w (.slice (some ⟨b, off, none⟩) n cap) n W := fun w' hB => (ownInts_some b off n cap W w' (hI.below hB hb) h0 h1).mono fun e w2 h => by
  obtain ⟨m, c, rfl, hm, hI2, hB2⟩ := h
  exact ⟨_, m, c, rfl, fun _ => rfl, fun _ => hm, hI2, hB.trans (hB2.mono hB.size)⟩
theorem lotsApart_any (seed : Nat) (hs : seed < W64) (q : Int) (a : Option Addr) (len cap : Nat) (c : Int) (w : World) (sl : IsInts w a len cap) :
    Calls Try.prog 3 #[.int .u64 seed, .int .i64 q, .slice a len cap, .int .i64 c] w fun e w' => e = .returned (.bool true) ∧ Below w.heap.size w w' := by
  by_cases h : 0 ≤ q ∧ q ≤ 200 ∧ len ≤ 60 ∧ 0 ≤ c ∧ c ≤ len
  · obtain ⟨q0, q1, l1, c0, c1⟩ := h
    obtain ⟨q, rfl⟩ : ∃ k : Nat, q = k := ⟨q.toNat, by omega⟩
    obtain ⟨c, rfl⟩ : ∃ k : Nat, c = k := ⟨c.toNat, by omega⟩
    have hc : c ≤ len := by omega
    rcases sl with rfl | ⟨b, off, W, rfl, hb, hcap, hm, hI, _⟩
    · obtain rfl : c = 0 := by omega
      exact apart_walk a 0 cap seed q 0 (fun _ => 0) w hs (by omega) (by omega) (by omega) _ _ (fun x => cut_h x a 0 cap 0 (by omega)) (fun x => cut_l x a 0 cap 0 (by omega)) (owns_none w _ _ _) (owns_none w _ _ _) (owns_none w _ _ _)
    · refine apart_walk _ len cap seed q c W w hs (by omega) (by omega) hc _ _ (fun x => cut_h x _ len cap c (by omega)) (fun x => cut_l x _ len cap c hc) ?_ ?_ ?_
      · rcases Nat.eq_zero_or_pos c with rfl | h0
        · exact owns_none w _ _ _
        · have e : sliced (some ⟨b, off, none⟩) 0 c cap 1 = .slice (some ⟨b, off, none⟩) c cap := by
            unfold sliced
            rw [if_neg (by omega)]
            simp [add_plain]
          rw [e]
          exact owns_some w b off c cap W hb (fun i hi => hI i (by omega)) h0 (by omega)
      · rcases Nat.eq_zero_or_pos (len - c) with e0 | h0
        · rw [e0]
          have e : sliced (some ⟨b, off, none⟩) c len cap 1 = .slice (if cap = c then some ⟨b, off, none⟩ else (some (⟨b, off, none⟩ : Addr)).map (·.add (c * 1))) 0 (cap - c) := by
            unfold sliced
            rw [e0]
          rw [e]
          exact owns_none w _ _ _
        · have e : sliced (some ⟨b, off, none⟩) c len cap 1 = .slice (some ⟨b, off + c, none⟩) (len - c) (cap - c) := by
            unfold sliced
            rw [if_neg (by omega)]
            simp [add_plain]
          rw [e]
          exact owns_some w b (off + c) (len - c) (cap - c) (fun i => W (c + i)) hb (fun i hi => by rw [Nat.add_assoc]; exact hI (c + i) (by omega)) h0 (by omega)
      · rcases Nat.eq_zero_or_pos len with rfl | h0
        · exact owns_none w _ _ _
        · exact owns_some w b off len cap W hb hI h0 (by omega)
  · refine apart_out a len cap seed q c w ?_ h
    rcases sl with rfl | ⟨b, off, W, rfl, hb, hcap, hm, hI, _⟩
    · omega
    · omega
end Go.Proofs.Ytlhffdmhbplpjaa
