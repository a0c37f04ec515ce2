/-
  A slice of numbers cut in two.
  A slice of numbers that came in: what its reading gives a walk.
  A slice of numbers that came in, and its two parts, as rows.
  A slice of a script's lines that came in: what its reading gives a walk.
-/
import Derived.Test.YtmbfdhekplnoaaaGreatDoorIssueMathX
import Derived.ChangeSlices
import Derived.Test.YtmbfdhekplnoaaaGreatDoorLinesIn
import Derived.Deep.SlicePairs
namespace Go.Proofs.YtmbfdhekplnoaaaGreatDoor
open Go.RowKit

theorem Tryz.elemOfInts : Tryz.prog.elem 35 = 3 := by kernel_rfl
theorem sizeOfInt (w : World) : (sizeOf 3).run Tryz.prog w = .ok 1 w := by kernel_rfl
theorem cut_h (w : World) (a : Option Addr) (len cap c : Nat) (h : c ≤ cap) : (Instr.slice 35 (.slice a len cap) none (some (.int .i64 c)) none).run Tryz.prog w = .ok (sliced a 0 c cap 1) w := by
  rw [run_slice_h (P := Tryz.prog) w 35 a len cap (by rw [Tryz.elemOfInts]; exact Tryz.underlying35) .i64 c (by omega) (by omega), Tryz.elemOfInts, sizeOfInt]
  rfl
theorem cut_l (w : World) (a : Option Addr) (len cap c : Nat) (h : c ≤ len) : (Instr.slice 35 (.slice a len cap) (some (.int .i64 c)) none none).run Tryz.prog w = .ok (sliced a c len cap 1) w := by
  rw [run_slice_l (P := Tryz.prog) w 35 a len cap (by rw [Tryz.elemOfInts]; exact Tryz.underlying35) .i64 c (by omega) (by omega), Tryz.elemOfInts, sizeOfInt]
  rfl
end Go.Proofs.YtmbfdhekplnoaaaGreatDoor

namespace Go.Proofs.YtmbfdhekplnoaaaGreatDoor
open Go.ChangeShapes Go.WideShapes Go.ChangeAt Go.RowKit

theorem Tryz.cellsOfInt : Tryz.prog.cellsOf 3 = 1 := by kernel_rfl
def IsInts (W : World) (a : Option Addr) (len cap : Nat) : Prop :=
  (len = 0) ∨ ∃ (b off : Nat) (X : Nat → Int), a = some ⟨b, off, none⟩ ∧ b < W.heap.size ∧ len ≤ cap ∧ cap ≤ 9223372036854775807 ∧ Ints W b off len X ∧ ∀ i, i < len → (Lit.int .i64 (X i)).wf = true
set_option maxRecDepth 100000 in
theorem ints_of {H : Type} {enc : TypeId × Value → H} {W : World} {a : Option Addr} {len cap : Nat} {d : DataW H} {p : List MemPlace}
    (h : DataW.Trod enc Tryz.prog W 0 (fun _ => true) true 35 (.slice a len cap) d p) : IsInts W a len cap := by
  obtain ⟨fuel, hf⟩ := h
  rcases Nat.eq_zero_or_pos len with h0 | h0
  · exact .inl h0
  rcases open_ints Tryz.underlying35 Tryz.underlying3 Tryz.cellsOfInt hf with ⟨hcs, _⟩ | ⟨x, l, c, zs, hcs, _, hl, hm, hz, _, hx, hw⟩
  · simp [Value.cells] at hcs
    omega
  · simp [Value.cells] at hcs
    obtain ⟨rfl, rfl, rfl⟩ := hcs
    have hz' : zs.length = cap := by simpa using hz
    obtain ⟨b, off, spot⟩ := x
    have hc0 := hx 0 (by omega)
    have hspot : spot = none := by simpa [Addr.add] using World.cell?_spot hc0
    subst hspot
    refine .inr ⟨b, off, fun i => zs.getD i 0, rfl, cell_lt hc0, hl, hm, fun i hi => ?_, fun i hi => ?_⟩
    · have := hx i (by omega)
      rw [add_plain] at this
      exact this
    · refine hw _ ?_
      show zs.getD i 0 ∈ zs
      rw [List.getD_eq_getElem?_getD, List.getElem?_eq_getElem (by omega), Option.getD_some]
      exact List.getElem_mem _
end Go.Proofs.YtmbfdhekplnoaaaGreatDoor

namespace Go.Proofs.YtmbfdhekplnoaaaGreatDoor
open Go.RowKit

theorem parts_read (w : World) (a : Option Addr) (len cap c : Nat) (hc : c ≤ len) (s : IsInts w a len cap) : ∃ W : Nat → Int, (∀ i, i < len → W i ≤ 9223372036854775807) ∧ RowV w (.slice a len cap) len W ∧ ∃ v1 v2, (∀ x : World, (Instr.slice 35 (.slice a len cap) none (some (.int .i64 c)) none).run Tryz.prog x = .ok v1 x) ∧ (∀ x : World, (Instr.slice 35 (.slice a len cap) (some (.int .i64 c)) none none).run Tryz.prog x = .ok v2 x) ∧ RowV w v1 c W ∧ RowV w v2 (len - c) (fun i => W (c + i)) := by
  rcases s with rfl | ⟨b, off, W, rfl, hb, hcap, hm, hI, wf⟩
  · obtain rfl : c = 0 := by omega
    exact ⟨fun _ => 0, fun i hi => by omega, ⟨_, _, rfl, fun i hi => by omega⟩, _, _, fun x => cut_h x a 0 cap 0 (by omega), fun x => cut_l x a 0 cap 0 (by omega), ⟨_, _, rfl, fun i hi => by omega⟩, ⟨_, _, rfl, fun i hi => by omega⟩⟩
  · refine ⟨W, fun i hi => (bounds_i64 (wf i hi)).2, ⟨_, _, rfl, fun i hi => ⟨b, off, rfl, hb, hI i hi⟩⟩, _, _, fun x => cut_h x _ len cap c (by omega), fun x => cut_l x _ len cap c hc, ?_, ?_⟩
    · rcases Nat.eq_zero_or_pos c with rfl | h0
      · exact ⟨_, _, rfl, fun i hi => by omega⟩
      · have e : sliced (some ⟨b, off, none⟩) 0 c cap 1 = .slice (some ⟨b, off, none⟩) c cap := by
          unfold sliced
          rw [if_neg (by omega)]
          simp [add_plain]
        rw [e]
        exact ⟨_, _, rfl, fun i hi => ⟨b, off, rfl, hb, hI i (by omega)⟩⟩
    · rcases Nat.eq_zero_or_pos (len - c) with e0 | h0
      · rw [e0]
        have e : sliced (some ⟨b, off, none⟩) c len cap 1 = .slice (if cap = c then some ⟨b, off, none⟩ else (some (⟨b, off, none⟩ : Addr)).map (·.add (c * 1))) 0 (cap - c) := by
          unfold sliced
          rw [e0]
        rw [e]
        exact ⟨_, _, rfl, fun i hi => by omega⟩
      · have e : sliced (some ⟨b, off, none⟩) c len cap 1 = .slice (some ⟨b, off + c, none⟩) (len - c) (cap - c) := by
          unfold sliced
          rw [if_neg (by omega)]
          simp [add_plain]
        rw [e]
        exact ⟨_, _, rfl, fun i hi => ⟨b, off + c, rfl, hb, by rw [Nat.add_assoc]; exact hI (c + i) (by omega)⟩⟩
end Go.Proofs.YtmbfdhekplnoaaaGreatDoor

namespace Go.Proofs.YtmbfdhekplnoaaaGreatDoor
open Go.ChangeShapes Go.WideShapes Go.ChangeAt Go.RowKit

theorem Tryz.cellsLineL : Tryz.prog.cellsOf 37 = 2 := by kernel_rfl
theorem Tryz.cellsStrL : Tryz.prog.cellsOf 9 = 1 := by kernel_rfl
theorem Tryz.cellsIntsL : Tryz.prog.cellsOf 35 = 1 := by kernel_rfl
def IsLns (W : World) (a : Option Addr) (len cap : Nat) : Prop :=
  (len = 0) ∨ ∃ (b off : Nat), a = some ⟨b, off, none⟩ ∧ b < W.heap.size ∧ len ≤ cap ∧ cap ≤ 9223372036854775807 ∧ Lns W b off len
set_option maxRecDepth 100000 in
theorem lines_of {H : Type} {enc : TypeId × Value → H} {W : World} {a : Option Addr} {len cap : Nat} {d : DataW H} {p : List MemPlace}
    (h : DataW.Trod enc Tryz.prog W 0 (fun _ => true) true 34 (.slice a len cap) d p) : IsLns W a len cap := by
  obtain ⟨fuel, hf⟩ := h
  rcases Nat.eq_zero_or_pos len with h0 | h0
  · exact .inl h0
  rcases Deep.open_slice_pairs Tryz.underlying34 Tryz.underlying37 Tryz.cellsLineL rfl rfl Tryz.cellsStrL Tryz.cellsIntsL hf with ⟨hcs, _⟩ | ⟨x, l, c, m, n, V0, V1, D0, D1, P0, P1, hcs, _, hl, hm, hmm, _, hx⟩
  · simp [Value.cells] at hcs
    omega
  · simp [Value.cells] at hcs
    obtain ⟨rfl, rfl, rfl⟩ := hcs
    have hm' : m = cap := by simpa using hmm
    subst hm'
    obtain ⟨b, off, spot⟩ := x
    have hc0 := (hx 0 (by omega)).1
    have hspot : spot = none := by simpa [Addr.add] using World.cell?_spot hc0
    subst hspot
    refine .inr ⟨b, off, rfl, cell_lt hc0, hl, hm, fun i hi => ?_⟩
    obtain ⟨c0, c1, g0, g1⟩ := hx i (by omega)
    obtain ⟨u0, e0, _, z0⟩ := DataW.trod_string Tryz.underlying9 g0
    have e0' : V0 i = .string u0 := by simpa using e0
    have sl : ∃ a' n' c', V1 i = .slice a' n' c' := by
      rcases Deep.open_slice Tryz.underlying35 g1 with ⟨hcs, _⟩ | ⟨x, l, c, _, _, _, _, hcs, _⟩
      · exact ⟨none, 0, 0, by simpa using hcs⟩
      · exact ⟨some x, l, c, by simpa using hcs⟩
    obtain ⟨a', n', c', e1⟩ := sl
    rw [e1] at g1 c1
    rw [e0'] at c0
    have I := ints_of (a := a') (len := n') (cap := c') ⟨n, by simpa [Value.cells] using g1⟩
    obtain ⟨X, _, R, _⟩ := parts_read W a' n' c' 0 (Nat.zero_le _) I
    rw [add_plain] at c0 c1
    refine ⟨u0, a', n', c', X, c0, by rw [Nat.add_assoc]; exact c1, R, ?_, z0⟩
    rcases I with rfl | ⟨_, _, _, _, _, _, _, _, _⟩ <;> omega
end Go.Proofs.YtmbfdhekplnoaaaGreatDoor
