/-
  A slice of numbers cut in two.
  A slice of numbers that came in, and its two parts, as rows.
-/
import Derived.Test.YtaihcceobnfmhaaGreatDoorAidX
import Derived.Test.YtaihcceobnfmhaaGreatDoorSentX
import Derived.Test.YtaihcceobnfmhaaGreatDoorPlayRowX
namespace Go.Proofs.YtaihcceobnfmhaaGreatDoor
open Go.RowKit

theorem Tryz.elemOfInts : Tryz.prog.elem 31 = 3 := by kernel_rfl
theorem sizeOfInt (w : World) : (sizeOf 3).run Tryz.prog w = .ok 1 w := by kernel_rfl
theorem cut_h (w : World) (a : Option Addr) (len cap c : Nat) (h : c ≤ cap) : (Instr.slice 31 (.slice a len cap) none (some (.int .i64 c)) none).run Tryz.prog w = .ok (sliced a 0 c cap 1) w := by
  rw [run_slice_h (P := Tryz.prog) w 31 a len cap (by rw [Tryz.elemOfInts]; exact Tryz.underlying31) .i64 c (by omega) (by omega), Tryz.elemOfInts, sizeOfInt]
  rfl
theorem cut_l (w : World) (a : Option Addr) (len cap c : Nat) (h : c ≤ len) : (Instr.slice 31 (.slice a len cap) (some (.int .i64 c)) none none).run Tryz.prog w = .ok (sliced a c len cap 1) w := by
  rw [run_slice_l (P := Tryz.prog) w 31 a len cap (by rw [Tryz.elemOfInts]; exact Tryz.underlying31) .i64 c (by omega) (by omega), Tryz.elemOfInts, sizeOfInt]
  rfl
end Go.Proofs.YtaihcceobnfmhaaGreatDoor

namespace Go.Proofs.YtaihcceobnfmhaaGreatDoor
open Go.RowKit

/-- a slice of numbers, and its two parts -/
theorem parts_read (w : World) (a : Option Addr) (len cap c : Nat) (hc : c ≤ len) (s : IsInts w a len cap) : ∃ W : Nat → Int, (∀ i, i < len → W i ≤ 9223372036854775807) ∧ RowV w (.slice a len cap) len W ∧ ∃ v1 v2, (∀ x : World, (Instr.slice 31 (.slice a len cap) none (some (.int .i64 c)) none).run Tryz.prog x = .ok v1 x) ∧ (∀ x : World, (Instr.slice 31 (.slice a len cap) (some (.int .i64 c)) none none).run Tryz.prog x = .ok v2 x) ∧ RowV w v1 c W ∧ RowV w v2 (len - c) (fun i => W (c + i)) := by
  rcases s with rfl | ⟨b, off, W, rfl, hb, hcap, hm, hI, wf⟩
  · obtain rfl : c = 0 := by omega
    exact ⟨fun _ => 0, fun i hi => by omega, ⟨_, _, rfl, fun i hi => by omega⟩, _, _, fun x => cut_h x a 0 cap 0 (by omega), fun x => cut_l x a 0 cap 0 (by omega), ⟨_, _, rfl, fun i hi => by omega⟩, ⟨_, _, rfl, fun i hi => by omega⟩⟩
  · refine ⟨W, fun i hi => (bounds_i64 (wf i hi)).2, ⟨_, _, rfl, fun i hi => ⟨b, off, rfl, hb, hI i hi⟩⟩, _, _, fun x => cut_h x _ len cap c (by omega), fun x => cut_l x _ len cap c hc, ?_, ?_⟩
    · rcases Nat.eq_zero_or_pos c with rfl | h0
      · exact ⟨_, _, rfl, fun i hi => by omega⟩
      · have e : sliced (some ⟨b, off, none⟩) 0 c cap 1 = .slice (some ⟨b, off, none⟩) c cap := by
          unfold sliced
          rw [if_neg (by omega)]
          simp [add_plain]
        rw [e]
        exact ⟨_, _, rfl, fun i hi => ⟨b, off, rfl, hb, hI i (by omega)⟩⟩
    · rcases Nat.eq_zero_or_pos (len - c) with e0 | h0
      · rw [e0]
        have e : sliced (some ⟨b, off, none⟩) c len cap 1 = .slice (if cap = c then some ⟨b, off, none⟩ else (some (⟨b, off, none⟩ : Addr)).map (·.add (c * 1))) 0 (cap - c) := by
          unfold sliced
          rw [e0]
        rw [e]
        exact ⟨_, _, rfl, fun i hi => by omega⟩
      · have e : sliced (some ⟨b, off, none⟩) c len cap 1 = .slice (some ⟨b, off + c, none⟩) (len - c) (cap - c) := by
          unfold sliced
          rw [if_neg (by omega)]
          simp [add_plain]
        rw [e]
        exact ⟨_, _, rfl, fun i hi => ⟨b, off + c, rfl, hb, by rw [Nat.add_assoc]; exact hI (c + i) (by omega)⟩⟩
end Go.Proofs.YtaihcceobnfmhaaGreatDoor
