/-
  The law ScriptPlays, where there is nothing to do, or too much; all of it.
-/
import Derived.Test.YtmbfdhekplnoaaaGreatDoorScriptPlaysWalk
import Derived.Test.YtmbfdhekplnoaaaGreatDoorLinesOfX
namespace Go.Proofs.YtmbfdhekplnoaaaGreatDoor
open Go.RowKit

set_option maxRecDepth 100000 in
set_option maxHeartbeats 1000000 in
theorem scriptPlays_none (seed : Nat) (hs : seed < W64) (a : Option Addr) (cap : Nat) (A : Nat → Addr) (w : World) (hL : ScLaid w A) :
    Calls Tryz.prog 5 #[.int .u64 seed, .slice a 0 cap] w fun e w' => e = .returned (.bool true) ∧ Below w.heap.size w w' := by
  go_enter Tryz.func5, Tryz.ntmps5
  go_wp2_with fail
  refine (hello_of A w hL).mono ?_
  rintro e w1 ⟨rfl, hB1⟩
  go_wp2_with fail
  refine (rch_new seed w1).mono ?_
  rintro e w2 ⟨rb, G2, rfl, k2, hG2, hB2⟩
  have B2 := hB1.trans (hB2.mono hB1.size)
  clear k2 hG2 hB1 hB2
  go_wp2_with fail
  go_loopw [6, 7, 9] (fun v1 v2 i w' => v1 = .slice none 0 0 ∧ v2 = .slice none 0 0 ∧ i = .int .i64 0 ∧ w' = w2) (fun _ _ _ _ => 0)
  case atStart => exact ⟨rfl, rfl, rfl, rfl⟩
  case round =>
    obtain ⟨rfl, rfl, rfl, rfl⟩ := hrel
    have T1 : TextV wr (.slice none 0 0) 0 (fun _ => []) := ⟨_, _, rfl, Nat.le_refl _, fun i hi => by omega⟩
    have L1 := hL.below B2
    go_wp2_with fail
    refine (sc_run seed hs _ 0 (by omega) (fun _ => []) (fun i hi => by omega) A _ L1 T1).mono ?_
    rintro e w3 ⟨u, O', C', rfl, said', V, hB3⟩
    have B3 := B2.trans (hB3.mono B2.size)
    have V3 : TextV w3 u 0 (fun _ => []) := V.congr fun i hi => by omega
    have T3 : TextV w3 (.slice none 0 0) 0 (fun _ => []) := ⟨_, _, rfl, Nat.le_refl _, fun i hi => by omega⟩
    clear V said' hB3 T1 B2
    obtain ⟨aU, cU, rfl, _⟩ := id V3
    go_wp2_with fail
    refine (sameTexts_of _ _ 0 (by omega) (fun _ => []) w3 V3 T3).mono ?_
    rintro e w4 ⟨rfl, m, hw⟩
    have B4 : Below w.heap.size w w4 := by rw [hw]; exact below_drewN B3 m
    clear hw
    go_wp2_with fail
    go_ret
    exact ⟨rfl, B4⟩
set_option maxRecDepth 100000 in
theorem scriptPlays_many (seed : Nat) (a : Option Addr) (n cap : Nat) (h : 60 < n) (hm : n ≤ 9223372036854775807) (A : Nat → Addr) (w : World) (hL : ScLaid w A) :
    Calls Tryz.prog 5 #[.int .u64 seed, .slice a n cap] w fun e w' => e = .returned (.bool true) ∧ Below w.heap.size w w' := by
  go_enter Tryz.func5, Tryz.ntmps5
  go_wp2_with fail
  refine (hello_of A w hL).mono ?_
  rintro e w1 ⟨rfl, hB1⟩
  go_wp2_with fail
  go_ret
  exact ⟨rfl, hB1⟩
theorem scriptPlays_any (seed : Nat) (hs : seed < W64) (a : Option Addr) (n cap : Nat) (A : Nat → Addr) (w : World) (hL : ScLaid w A) (s : IsLns w a n cap) :
    Calls Tryz.prog 5 #[.int .u64 seed, .slice a n cap] w fun e w' => e = .returned (.bool true) ∧ Below w.heap.size w w' := by
  rcases s with rfl | ⟨b, off, rfl, hb, hl, hm, hA⟩
  · exact scriptPlays_none seed hs a cap A w hL
  · by_cases h : n ≤ 60
    · exact scriptPlays_walk seed hs b off n cap A w hL hb h hA
    · exact scriptPlays_many seed _ n cap (by omega) (by omega) A w hL
end Go.Proofs.YtmbfdhekplnoaaaGreatDoor
