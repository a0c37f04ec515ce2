/-
  The program's chain by its contracts: pay, stake, unstake, free, accuse.
-/
import Derived.Test.YtaihcceobnfmhaaDoorProgBooksPay
namespace Go.Proofs.YtaihcceobnfmhaaDoor
open Go.RowKit

/-- an act's end -/
def CbEnd (sb : Nat) (F : Nat → Prop) (cb g : Nat) (C' : Ch) (c : Int) (A : Nat → Addr) (w : World) (e : Ending) (w' : World) : Prop := ∃ ev F', e = .returned ev ∧ ErrIs A ev c ∧ PCb sb F' w' cb C' (g + 2000) ∧ Moved F F' w w'
def CbEndN (sb : Nat) (F : Nat → Prop) (cb g : Nat) (C' : Ch) (n c : Int) (A : Nat → Addr) (w : World) (e : Ending) (w' : World) : Prop := ∃ ev F', e = .returned (.tuple #[.int .i64 n, ev]) ∧ ErrIs A ev c ∧ PCb sb F' w' cb C' (g + 2000) ∧ Moved F F' w w'
/-- what its doing leaves of the errors -/
theorem PChAt.laid {tag : Nat → Nat} {w w' : World} {cb pb sb kb g : Nat} {xs : Nat → Value} {C : Ch} {F : Nat → Prop} {A : Nat → Addr} (h : PChAt tag w cb pb sb kb xs C g) (hL : ChLaid8 w A) (hf : ∀ k, F k ↔ tag k ≠ 0) (hK : KeptP F w w') : ChLaid8 w' A := hL.keptP hK fun k q => h.vs k ((hf k).1 q)
theorem PChAt.sk {tag : Nat → Nat} {w w' : World} {cb pb sb kb g g' : Nat} {xs : Nat → Value} {C : Ch} {F G : Nat → Prop} {S : Sk} (h : PChAt tag w cb pb sb kb xs C g) (hf : ∀ k, F k ↔ tag k ≠ 0) (hs : PSk G w' sb S g') (hM : Moved (fun k => tag k = 3) G w w') (hg : g ≤ g') (h2 : g' ≤ g + 2000) :
    ∃ F', PCb sb F' w' cb { C with s := S } (g + 2000) ∧ Moved F F' w w' :=
  ⟨_, ⟨_, _, _, _, fun _ => Iff.rfl, (h.stakes hs hM hg).more h2⟩, retag_moved hf hM (by decide)⟩
theorem PChAt.ct {tag : Nat → Nat} {w w' : World} {cb pb sb kb g g' : Nat} {xs : Nat → Value} {C : Ch} {F G : Nat → Prop} {x : Ct} (h : PChAt tag w cb pb sb kb xs C g) (hf : ∀ k, F k ↔ tag k ≠ 0) (hs : PCt G w' kb x g') (hM : Moved (fun k => tag k = 4) G w w') (hg : g ≤ g') (h2 : g' ≤ g + 2000) :
    ∃ F', PCb sb F' w' cb { C with c := x } (g + 2000) ∧ Moved F F' w w' :=
  ⟨_, ⟨_, _, _, _, fun _ => Iff.rfl, (h.court hs hM hg).more h2⟩, retag_moved hf hM (by decide)⟩
theorem moved_after {F F' : Nat → Prop} {w w1 w2 : World} (hB : Below w.heap.size w w1) (h : Moved F F' w1 w2) (hl : ∀ k, F' k → F k ∨ w.heap.size ≤ k) : Moved F F' w w2 :=
  ⟨(KeptP.of_below (F := F) hB).trans h.kept fun _ _ q => q, fun k hk q => (hl k q).elim id fun z => by omega⟩

theorem Ch.stake_parts (C : Ch) (o b n : Int) : { C with p := (C.stake o b n).p, s := (C.stake o b n).s } = C.stake o b n := by
  unfold Ch.stake
  split <;> rfl
theorem Ch.free_parts (C : Ch) (o : Int) : { C with p := (C.free o).p, s := (C.free o).s } = C.free o := by
  unfold Ch.free
  split <;> rfl
set_option maxRecDepth 100000 in
set_option maxHeartbeats 1000000 in
theorem pcb_stake {sb : Nat} (F : Nat → Prop) (cb : Nat) (C : Ch) (hC : C.Ok) (_hb : C.Few) (g : Nat) (hg : g ≤ 850000) (o b n : Int) (wo : (Lit.int .i64 o).wf = true) (A : Nat → Addr) (w : World) (hL : ChLaid8 w A) (h : PCb sb F w cb C g) :
    Calls Tryd.prog 6 #[.pointer (some ⟨cb, 0, none⟩), .int .i64 o, .int .i64 b, .int .i64 n] w (CbEnd sb F cb g (C.stake o b n) (C.stakeC o b n) A w) := by
  obtain ⟨tag, pb, kb, xs, hf, h⟩ := h
  have c0 := h.c0
  have c1 := h.c1
  have P := bks_stake _ pb sb C hC.p hC.s g hg o b n wo A w hL h.bks
  have H := hide h
  clear h
  go_enter Tryd.func6, Tryd.ntmps6
  go_wp2_with fail
  refine P.mono ?_
  rintro e w1 ⟨ev, G, rfl, hE, hb, hM⟩
  obtain ⟨F', h1, h2⟩ := H.out.bk hf hb hM (by omega) (C.stake_parts o b n)
  clear P H hb hM c0 c1
  go_wp2_with fail
  go_ret
  exact ⟨ev, F', rfl, hE, h1, h2⟩
end Go.Proofs.YtaihcceobnfmhaaDoor
