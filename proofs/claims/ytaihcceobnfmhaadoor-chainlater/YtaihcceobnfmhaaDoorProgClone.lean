/-
  The program's pool copied (pool.Clone).
-/
import Derived.Test.YtaihcceobnfmhaaDoorProgActs
import Derived.Shelf.SlMaps.Clone
import Derived.Deep.RegionHeld3
namespace Go.Proofs.YtaihcceobnfmhaaDoor
open Go.RowKit Go.Maps

theorem pool_made {w : World} {m g : Nat} {x : St} (h : OwnS w m x.s g) (t : TypeId) : PoolAt (w.alloc (.cells #[.int .i64 x.T, .int .i64 x.A, .map (some m)] t)) w.heap.size m x g where
  c0 := cell_new _ _ _ _ _ _ rfl rfl
  c1 := cell_new _ _ _ _ _ _ rfl rfl
  c2 := cell_new _ _ _ _ _ _ rfl rfl
  f0 := World.frozen?_alloc_at _ _ _ _ rfl
  f1 := World.frozen?_alloc_at _ _ _ _ rfl
  own := by
    obtain ⟨n, D, ho, hn, hat⟩ := h
    exact ⟨n, D, ho.alloc _, hn, hat⟩
  ne := by
    obtain ⟨n, D, ho, _⟩ := h
    have := ho.lt
    omega
theorem below_of_drew {w w' : World} (h : Below w.drew.heap.size w.drew w') : Below w.heap.size w w' := ⟨h.os, h.tape, h.output, h.size, h.block⟩
end Go.Proofs.YtaihcceobnfmhaaDoor
