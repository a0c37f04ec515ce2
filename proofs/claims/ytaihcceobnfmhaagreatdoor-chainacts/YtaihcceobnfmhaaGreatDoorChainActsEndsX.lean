/-
  The law ChainActs of package bakehouselaw3, walked: for every seed and every slice of acts it returns true.
  The law ChainActs, walked, where there is nothing to do, or too much; all of it.
-/
import Derived.Test.YtaihcceobnfmhaaGreatDoorChainAsX
import Derived.Test.YtaihcceobnfmhaaGreatDoorChainAct
import Derived.Test.YtaihcceobnfmhaaGreatDoorRefChNew
namespace Go.Proofs.YtaihcceobnfmhaaGreatDoor
open Go.RowKit

set_option maxRecDepth 100000 in
set_option maxHeartbeats 4000000 in
theorem chainActs_walk (seed : Nat) (hs : seed < W64) (b off len cap : Nat) (A : Nat → Addr) (w : World) (hL : Laid w A) (hb : b < w.heap.size) (h120 : len ≤ 120) (hA : CActs w b off len) :
    Calls Tryz.prog 6 #[.int .u64 seed, .slice (some ⟨b, off, none⟩) len cap] w fun e w' => e = .returned (.bool true) ∧ Below w.heap.size w w' := by
  go_enter Tryz.func6, Tryz.ntmps6
  go_wp2_with fail
  refine (begun_of A w hL.ch).mono ?_
  rintro e w1 ⟨rfl, hB1⟩
  go_wp2_with fail
  refine (pch_new seed hs A w1 (hL.ch.below hB1)).mono ?_
  rintro e w2 ⟨cb, F2, rfl, h2, hF2, hB2⟩
  go_wp2_with fail
  refine (rch_new seed w2).mono ?_
  rintro e w3 ⟨rb, G3, rfl, k3, hG3, hB3⟩
  have B12 := hB1.trans (hB2.mono hB1.size)
  have W3 : Sides w.heap.size w w3 F2 G3 := ⟨fun k hk hg => by have := h2.lt k hk; have := hG3 k hg; omega, fun k hk => Nat.le_trans hB1.size (hF2 k hk), fun k hk => Nat.le_trans B12.size (hG3 k hk), B12.trans (hB3.mono B12.size), Nat.le_trans B12.size hB3.size⟩
  have h3 := h2.nextB hB3
  clear h2 hF2 hG3 hB1 hB2 hB3 B12
  go_wp2_with fail
  go_loopw [8] (fun i wr => ∃ k : Nat, k ≤ len ∧ i = .int .i64 k ∧ BothC w.heap.size w wr cb rb (10000 + 2000 * k) k) (fun i _ => len - (intOf i).toNat)
  case atStart => exact ⟨0, Nat.zero_le _, rfl, F2, G3, chNew seed, 10000, chNew_ok seed hs, chNew_fit seed, Nat.le_refl _, h3, k3, W3⟩
  case round =>
    obtain ⟨k, hk, rfl, F, G, C, g, hC, hf, hg, hP, hR, hW⟩ := hrel
    clear h3 k3 W3
    by_cases hlt : k < len
    · obtain ⟨t, a, f⟩ := hA.below hW.below hb k hlt
      have a0 := a.c0
      have a1 := a.c1
      have a2 := a.c2
      have a3 := a.c3
      have a4 := a.c4
      have a5 := a.c5
      have a6 := a.c6
      have a7 := a.c7
      have a8 := a.c8
      go_wp2_with fail
      refine (cact_of w F G cb rb C hC k (by omega) hf g (by omega) t f A wr hL hP hR hW).mono ?_
      rintro e w4 ⟨rfl, F4, G4, C4, g4, hC4, hf4, hg4, hP4, hR4, hW4⟩
      clear a a0 a1 a2 a3 a4 a5 a6 a7 a8 hP hR hW hC hf
      by_cases h8 : (k : Int) % 8 = 0
      · have d0 : ((k : Int) % 8 == 0) = true := by rw [beq_iff_eq]; exact h8
        clear h8
        go_wp2_with fail
        refine (asChain_of w F4 G4 cb rb C4 hC4 (by have := hf4.k; omega) (by have := hf4.y; have := hf4.v; omega) g4 w4 hP4 hR4 hW4).mono ?_
        rintro e w5 ⟨rfl, hP5, hR5, hW5⟩
        clear hP4 hR4 hW4
        go_wp2_with fail
        go_roundw
        case rel => exact ⟨k + 1, by omega, by go_num, F4, G4, C4, g4, hC4, hf4, by omega, hP5, hR5, hW5⟩
        case measure => simp [intOf]; omega
      · have d0 : ((k : Int) % 8 == 0) = false := by rw [beq_eq_false_iff_ne]; exact h8
        clear h8
        go_wp2_with fail
        go_roundw
        case rel => exact ⟨k + 1, by omega, by go_num, F4, G4, C4, g4, hC4, hf4, by omega, hP4, hR4, hW4⟩
        case measure => simp [intOf]; omega
    · obtain rfl : k = len := by omega
      go_wp2_with fail
      refine (asChain_of w F G cb rb C hC (by have := hf.k; omega) (by have := hf.y; have := hf.v; omega) g wr hP hR hW).mono ?_
      rintro e w5 ⟨rfl, hP5, hR5, hW5⟩
      have hB := hW5.below
      clear hP hR hW hP5 hR5 hW5
      go_wp2_with fail
      go_ret
      exact ⟨rfl, hB⟩
end Go.Proofs.YtaihcceobnfmhaaGreatDoor

namespace Go.Proofs.YtaihcceobnfmhaaGreatDoor
open Go.RowKit

set_option maxRecDepth 100000 in
set_option maxHeartbeats 1000000 in
theorem chainActs_none (seed : Nat) (hs : seed < W64) (a : Option Addr) (cap : Nat) (A : Nat → Addr) (w : World) (hL : Laid w A) :
    Calls Tryz.prog 6 #[.int .u64 seed, .slice a 0 cap] w fun e w' => e = .returned (.bool true) ∧ Below w.heap.size w w' := by
  go_enter Tryz.func6, Tryz.ntmps6
  go_wp2_with fail
  refine (begun_of A w hL.ch).mono ?_
  rintro e w1 ⟨rfl, hB1⟩
  go_wp2_with fail
  refine (pch_new seed hs A w1 (hL.ch.below hB1)).mono ?_
  rintro e w2 ⟨cb, F2, rfl, h2, hF2, hB2⟩
  go_wp2_with fail
  refine (rch_new seed w2).mono ?_
  rintro e w3 ⟨rb, G3, rfl, k3, hG3, hB3⟩
  have B12 := hB1.trans (hB2.mono hB1.size)
  have W3 : Sides w.heap.size w w3 F2 G3 := ⟨fun k hk hg => by have := h2.lt k hk; have := hG3 k hg; omega, fun k hk => Nat.le_trans hB1.size (hF2 k hk), fun k hk => Nat.le_trans B12.size (hG3 k hk), B12.trans (hB3.mono B12.size), Nat.le_trans B12.size hB3.size⟩
  have h3 := h2.nextB hB3
  clear h2 hF2 hG3 hB1 hB2 hB3 B12
  go_wp2_with fail
  go_loopw [8] (fun i w' => i = .int .i64 0 ∧ w' = w3) (fun _ _ => 0)
  case atStart => exact ⟨rfl, rfl⟩
  case round =>
    obtain ⟨rfl, rfl⟩ := hrel
    have fit := chNew_fit seed
    go_wp2_with fail
    refine (asChain_of w F2 G3 cb rb (chNew seed) (chNew_ok seed hs) (by have := fit.k; omega) (by have := fit.y; have := fit.v; omega) 10000 _ h3 k3 W3).mono ?_
    rintro e w5 ⟨rfl, hP5, hR5, hW5⟩
    have hB := hW5.below
    clear h3 k3 W3 hP5 hR5 hW5
    go_wp2_with fail
    go_ret
    exact ⟨rfl, hB⟩
set_option maxRecDepth 100000 in
theorem chainActs_many (seed : Nat) (a : Option Addr) (len cap : Nat) (h : 120 < len) (hm : len ≤ 9223372036854775807) (A : Nat → Addr) (w : World) (hL : Laid w A) :
    Calls Tryz.prog 6 #[.int .u64 seed, .slice a len cap] w fun e w' => e = .returned (.bool true) ∧ Below w.heap.size w w' := by
  go_enter Tryz.func6, Tryz.ntmps6
  go_wp2_with fail
  refine (begun_of A w hL.ch).mono ?_
  rintro e w1 ⟨rfl, hB1⟩
  go_wp2
  go_ret
  exact ⟨rfl, hB1⟩
theorem chainActs_any (seed : Nat) (hs : seed < W64) (a : Option Addr) (len cap : Nat) (A : Nat → Addr) (w : World) (hL : Laid w A) (s : IsCActs w a len cap) :
    Calls Tryz.prog 6 #[.int .u64 seed, .slice a len cap] w fun e w' => e = .returned (.bool true) ∧ Below w.heap.size w w' := by
  rcases s with rfl | ⟨b, off, rfl, hb, hcap, hm, hA⟩
  · exact chainActs_none seed hs a cap A w hL
  · rcases Nat.eq_zero_or_pos len with rfl | _
    · exact chainActs_none seed hs _ cap A w hL
    · by_cases h120 : len ≤ 120
      · exact chainActs_walk seed hs b off len cap A w hL hb h120 hA
      · exact chainActs_many seed _ len cap (by omega) (by omega) A w hL
end Go.Proofs.YtaihcceobnfmhaaGreatDoor
