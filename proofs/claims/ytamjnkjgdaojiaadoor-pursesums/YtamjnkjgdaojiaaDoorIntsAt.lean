/-
  Numbers laid one behind another.
-/
import Derived.Test.YtamjnkjgdaojiaaDoorKept
namespace Go.Proofs.YtamjnkjgdaojiaaDoor
open Go.RowKit

/-- so many numbers laid one behind another -/
def Ints (w : World) (b off n : Nat) (W : Nat → Int) : Prop := ∀ i, i < n → w.cell? ⟨b, off + i, none⟩ = some (.int .i64 (W i))
theorem Ints.kept {w w' : World} {b off n : Nat} {W : Nat → Int} {X : List Nat} (h : Ints w b off n W) (hK : Kept X w w') (hb : b ∉ X) : Ints w' b off n W := fun i hi => hK.old (h i hi) hb
theorem Ints.below {w w' : World} {b off n B : Nat} {W : Nat → Int} (h : Ints w b off n W) (hB : Below B w w') (hb : b < B) : Ints w' b off n W := fun i hi => by rw [hB.cell (p := ⟨b, off + i, none⟩) hb]; exact h i hi
end Go.Proofs.YtamjnkjgdaojiaaDoor
