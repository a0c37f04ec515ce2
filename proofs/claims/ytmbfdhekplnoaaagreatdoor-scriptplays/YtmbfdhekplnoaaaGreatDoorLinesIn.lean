/-
  A slice of a script's lines, as it is read.
-/
import Derived.Test.YtmbfdhekplnoaaaGreatDoorIssueMathX
namespace Go.Proofs.YtmbfdhekplnoaaaGreatDoor
open Go.RowKit

/-- a line: its word, its numbers -/
structure LnAt (w : World) (b off : Nat) (wd : ByteArray) (a : Option Addr) (n cap : Nat) (X : Nat → Int) : Prop where
  c0 : w.cell? ⟨b, off, none⟩ = some (.string wd)
  c1 : w.cell? ⟨b, off + 1, none⟩ = some (.slice a n cap)
  row : RowV w (.slice a n cap) n X
  nm : n ≤ 9223372036854775807
  sm : wd.size ≤ 9223372036854775807
def Lns (w : World) (b off len : Nat) : Prop := ∀ i, i < len → ∃ wd a n cap X, LnAt w b (off + i * 2) wd a n cap X
theorem Lns.below {w w' : World} {b off len : Nat} (h : Lns w b off len) (hB : Below w.heap.size w w') (hb : b < w.heap.size) : Lns w' b off len := fun i hi => by
  obtain ⟨wd, a, n, cap, X, l⟩ := h i hi
  have e : ∀ k, w'.cell? ⟨b, k, none⟩ = w.cell? ⟨b, k, none⟩ := fun k => hB.cell (p := ⟨b, k, none⟩) hb
  exact ⟨wd, a, n, cap, X, (e _).trans l.c0, (e _).trans l.c1, l.row.below hB, l.nm, l.sm⟩
end Go.Proofs.YtmbfdhekplnoaaaGreatDoor
