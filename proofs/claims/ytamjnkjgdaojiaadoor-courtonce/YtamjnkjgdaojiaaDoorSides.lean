/-
  Parts of memory that are a call's own: one; two that lie apart.
-/
import Derived.Test.YtamjnkjgdaojiaaDoorKeptP
namespace Go.Proofs.YtamjnkjgdaojiaaDoor
open Go.RowKit

/-- what is its own lies behind B -/
structure Mine (B : Nat) (w0 w : World) (F : Nat → Prop) : Prop where
  f : ∀ k, F k → B ≤ k
  below : Below B w0 w
  size : B ≤ w.heap.size
theorem Mine.next {B : Nat} {w0 w w' : World} {F F' : Nat → Prop} (h : Mine B w0 w F) (hM : Moved F F' w w') : Mine B w0 w' F' := by
  refine ⟨fun k hk => ?_, h.below.trans (hM.kept.below h.size h.f), Nat.le_trans h.size hM.kept.size⟩
  rcases Nat.lt_or_ge k w.heap.size with l | l
  · exact h.f k (hM.old k l hk)
  · exact Nat.le_trans h.size l
theorem Mine.nextB {B : Nat} {w0 w w' : World} {F : Nat → Prop} (h : Mine B w0 w F) (k : Below w.heap.size w w') : Mine B w0 w' F :=
  ⟨h.f, h.below.trans (k.mono h.size), Nat.le_trans h.size k.size⟩
theorem Mine.drewN {B : Nat} {w0 w : World} {F : Nat → Prop} (h : Mine B w0 w F) (n : Nat) : Mine B w0 (w.drewN n) F := h.nextB (below_drewN (Below.refl _ _) n)
theorem Mine.new {w w' : World} {F : Nat → Prop} (hF : ∀ k, F k → w.heap.size ≤ k) (hB : Below w.heap.size w w') : Mine w.heap.size w w' F := ⟨hF, hB, hB.size⟩
/-- what lies apart, and behind B -/
structure Sides (B : Nat) (w0 w : World) (F G : Nat → Prop) : Prop where
  apart : ∀ k, F k → ¬ G k
  f : ∀ k, F k → B ≤ k
  g : ∀ k, G k → B ≤ k
  below : Below B w0 w
  size : B ≤ w.heap.size
theorem Sides.nextB {B : Nat} {w0 w w' : World} {F G : Nat → Prop} (h : Sides B w0 w F G) (k : Below w.heap.size w w') : Sides B w0 w' F G :=
  ⟨h.apart, h.f, h.g, h.below.trans (k.mono h.size), Nat.le_trans h.size k.size⟩
theorem Sides.drewN {B : Nat} {w0 w : World} {F G : Nat → Prop} (h : Sides B w0 w F G) (n : Nat) : Sides B w0 (w.drewN n) F G := h.nextB (below_drewN (Below.refl _ _) n)
/-- a cell of another's -/
theorem Moved.cell {F F' : Nat → Prop} {w w' : World} (h : Moved F F' w w') {p : Addr} {v : Value} (hc : w.cell? p = some v) (hx : ¬ F p.block) : w'.cell? p = some v := h.kept.old hc hx
/-- a step of the first, of the second -/
theorem Sides.one {B : Nat} {w0 w w' : World} {F F' G : Nat → Prop} (h : Sides B w0 w F G) (hlt : ∀ k, G k → k < w.heap.size) (hM : Moved F F' w w') : Sides B w0 w' F' G := by
  refine ⟨fun k hk hg => ?_, fun k hk => ?_, h.g, h.below.trans (hM.kept.below h.size h.f), Nat.le_trans h.size hM.kept.size⟩
  · exact h.apart k (hM.old k (hlt k hg) hk) hg
  · rcases Nat.lt_or_ge k w.heap.size with l | l
    · exact h.f k (hM.old k l hk)
    · exact Nat.le_trans h.size l
theorem Sides.two {B : Nat} {w0 w w' : World} {F G G' : Nat → Prop} (h : Sides B w0 w F G) (hlt : ∀ k, F k → k < w.heap.size) (hM : Moved G G' w w') : Sides B w0 w' F G' := by
  refine ⟨fun k hk hg => ?_, h.f, fun k hk => ?_, h.below.trans (hM.kept.below h.size h.g), Nat.le_trans h.size hM.kept.size⟩
  · exact h.apart k hk (hM.old k (hlt k hk) hg)
  · rcases Nat.lt_or_ge k w.heap.size with l | l
    · exact h.g k (hM.old k l hk)
    · exact Nat.le_trans h.size l
end Go.Proofs.YtamjnkjgdaojiaaDoor
