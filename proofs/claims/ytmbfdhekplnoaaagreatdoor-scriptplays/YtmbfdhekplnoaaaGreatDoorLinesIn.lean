/-
  A slice of a script's lines, as it is read.
-/
import Derived.Test.YtmbfdhekplnoaaaGreatDoorIssueMathX
namespace Go.Proofs.YtmbfdhekplnoaaaGreatDoor
open Go.RowKit

structure LnAt (w : World) (b off : Nat) (wd : ByteArray) (a : Option Addr) (n cap : Nat) (X : Nat → Int) : Prop where
  c0 : w.cell? ⟨b, off, none⟩ = some (.string wd)
  c1 : w.cell? ⟨b, off + 1, none⟩ = some (.slice a n cap)
  row : RowV w (.slice a n cap) n X
  nm : n ≤ 9223372036854775807
  sm : wd.size ≤ 9223372036854775807
def Lns (w : World) (b off len : Nat) : Prop := ∀ i, i < len → ∃ wd a n cap X, LnAt w b (off + i * 2) wd a n cap X
end Go.Proofs.YtmbfdhekplnoaaaGreatDoor
