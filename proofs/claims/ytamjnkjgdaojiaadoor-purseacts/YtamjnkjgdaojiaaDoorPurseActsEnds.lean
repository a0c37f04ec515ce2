/-
  The law PurseActs, whatever comes in.
-/
import Derived.Test.YtamjnkjgdaojiaaDoorPurseActsWalk
import Derived.Test.YtamjnkjgdaojiaaDoorIntsIn
namespace Go.Proofs.YtamjnkjgdaojiaaDoor
open Go.RowKit

theorem purseActs_any (a a2 : Option Addr) (len cap len2 cap2 : Nat) (A : Nat → Addr) (w : World) (hL : Laid w A) (sl : IsActs w a len cap) (st : IsInts w a2 len2 cap2) :
    Calls Tryd.prog 4 #[.slice a len cap, .slice a2 len2 cap2] w fun e w' => e = .returned (.bool true) ∧ Below w.heap.size w w' := by
  obtain ⟨b, off, K, O, N, hm, h1, h2, h3⟩ : ∃ b off K O N, len ≤ 9223372036854775807 ∧ Hid (0 < len → a = some ⟨b, off, none⟩) ∧ Hid (0 < len → b < w.heap.size) ∧ Acts w b off len K O N := by
    rcases sl with rfl | ⟨b, off, K, O, N, rfl, hb, hcap, hm, hA⟩
    · exact ⟨0, 0, fun _ => ByteArray.empty, fun _ => 0, fun _ => 0, by omega, fun h => by omega, fun h => by omega, fun i hi => by omega⟩
    · exact ⟨b, off, K, O, N, by omega, fun _ => rfl, fun _ => hb, hA⟩
  by_cases h100 : len ≤ 100
  · rcases st with rfl | ⟨b2, off2, T, rfl, hb2, _, _, hI, _⟩
    · exact purseActs_walk a a2 b off len cap 0 0 0 cap2 K O N (fun _ => 0) A w hL h1 h2 h100 h3 (fun h => by omega) (fun h => by omega) (fun i hi => by omega)
    · exact purseActs_walk a _ b off len cap b2 off2 len2 cap2 K O N T A w hL h1 h2 h100 h3 (fun _ => rfl) (fun _ => hb2) hI
  · exact purseActs_many a a2 len cap len2 cap2 A w hL.pur (by omega) hm
end Go.Proofs.YtamjnkjgdaojiaaDoor
