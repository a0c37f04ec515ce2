/-
  The program's books by their contracts: stake, free.
-/
import Derived.Test.YtaihcceobnfmhaaDoorProgChainTurn
namespace Go.Proofs.YtaihcceobnfmhaaDoor
open Go.RowKit

theorem small_wf (d : Int) (h0 : -9223372036854775808 ≤ d) (h1 : d ≤ 9223372036854775807) : (Lit.int .i64 d).wf = true := by
  have h : IntKind.i64.min ≤ d := h0
  simp [Lit.wf, h]
  omega
theorem moved_drew {F F' : Nat → Prop} {w w' : World} (h : Moved F F' w.drew w') : Moved F F' w w' := ⟨⟨h.kept.os, h.kept.tape, h.kept.output, h.kept.size, h.kept.block⟩, h.old⟩
/-- a copy of the books -/
structure BkBox (w : World) (nb pb sb : Nat) : Prop where
  e0 : w.cell? ⟨nb, 0, none⟩ = some (.pointer (some ⟨pb, 0, none⟩))
  e1 : w.cell? ⟨nb, 1, none⟩ = some (.pointer (some ⟨sb, 0, none⟩))
theorem box_new (w : World) (t : TypeId) (pb sb : Nat) : BkBox (w.alloc (.cells #[.pointer (some ⟨pb, 0, none⟩), .pointer (some ⟨sb, 0, none⟩)] t)) w.heap.size pb sb := ⟨by simp, by simp⟩
theorem BkBox.keptP {w w' : World} {nb pb sb : Nat} {H : Nat → Prop} (h : BkBox w nb pb sb) (hK : KeptP H w w') (hn : ¬ H nb) : BkBox w' nb pb sb := ⟨hK.old h.e0 hn, hK.old h.e1 hn⟩
theorem BkBox.below {w w' : World} {nb pb sb : Nat} (h : BkBox w nb pb sb) (hB : Below w.heap.size w w') : BkBox w' nb pb sb := ⟨was_cellP hB h.e0, was_cellP hB h.e1⟩
/-- an act's end -/
def BkEnd (G : Nat → Prop) (pb sb g : Nat) (C' : Ch) (c : Int) (A : Nat → Addr) (w : World) (e : Ending) (w' : World) : Prop := ∃ ev G', e = .returned ev ∧ ErrIs A ev c ∧ BksAt G' w' pb sb C' (g + 2000) ∧ Moved (bksOwn pb G) (bksOwn pb G') w w'
def BkEndN (G : Nat → Prop) (pb sb g : Nat) (C' : Ch) (n c : Int) (A : Nat → Addr) (w : World) (e : Ending) (w' : World) : Prop := ∃ ev G', e = .returned (.tuple #[.int .i64 n, ev]) ∧ ErrIs A ev c ∧ BksAt G' w' pb sb C' (g + 2000) ∧ Moved (bksOwn pb G) (bksOwn pb G') w w'

set_option maxRecDepth 100000 in
set_option maxHeartbeats 1000000 in
theorem bks_stake (G : Nat → Prop) (pb sb : Nat) (C : Ch) (hp' : C.p.Ok) (hs : C.s.Ok) (g : Nat) (hg : g ≤ 850000) (o b n : Int) (wo : (Lit.int .i64 o).wf = true) (A : Nat → Addr) (w : World) (hL : ChLaid8 w A) (h : BksAt G w pb sb C g) :
    Calls Tryd.prog 16 #[.agg #[.pointer (some ⟨pb, 0, none⟩), .pointer (some ⟨sb, 0, none⟩)], .int .i64 o, .int .i64 b, .int .i64 n] w (BkEnd G pb sb g (C.stake o b n) (C.stakeC o b n) A w) := by
  have B : Below w.heap.size w (w.alloc (.cells #[.pointer (some ⟨pb, 0, none⟩), .pointer (some ⟨sb, 0, none⟩)] 39)) := (Below.refl _ _).alloc (Nat.le_refl _) _
  have X := box_new w 39 pb sb
  have e0 := X.e0
  have h1 := h.below B
  have L1 := hL.below B
  have M1 : Moved (bksOwn pb G) (bksOwn pb G) w (w.alloc (.cells #[.pointer (some ⟨pb, 0, none⟩), .pointer (some ⟨sb, 0, none⟩)] 39)) := ⟨KeptP.of_below B, fun _ _ q => q⟩
  have nn : ¬ bksOwn pb G w.heap.size := fun q => by have := h.lt _ q; omega
  have P := pu_out pb C.p hp' o n A _ L1.pur h1.p
  clear h hL B
  go_enter Tryd.func16, Tryd.ntmps16
  go_wp2_with fail
  generalize hn : w.heap.size = nb at *
  generalize w.alloc (.cells #[.pointer (some ⟨pb, 0, none⟩), .pointer (some ⟨sb, 0, none⟩)] 39) = w1 at *
  refine P.mono ?_
  rintro e w2 ⟨ev, rfl, hE, hp, hK⟩
  have h2 := h1.purse hp hK
  have M2 := h1.purseMoved hK
  have X2 := X.keptP M2.kept nn
  have L2 := h1.laid L1 M2.kept
  have M12 := M1.trans M2
  have e1 := X2.e1
  have lt2 := h2.lt
  clear P hp hK e0 X L1 M1 M2
  by_cases ho : C.p.outC o n = 0
  · obtain rfl := hE.nil ho
    have J := ps_join G sb C.s hs g (by omega) o b n wo A w2 L2.stk h2.s
    have H2 := hide h2
    clear hE h2 h1
    go_wp2_with fail
    refine J.mono ?_
    rintro e w3 ⟨ev3, G3, rfl, hE3, hS, hM⟩
    have h3 := H2.out.stakes hS hM
    have M3 := H2.out.stakesMoved hM
    have X3 := X2.keptP M3.kept nn
    have L3 := H2.out.laid L2 M3.kept
    have M13 := M12.trans M3
    have f0 := X3.e0
    clear J H2 hS hM X2 e1 L2 M12
    by_cases hj : C.s.joinC o b n = 0
    · obtain rfl := hE3.nil hj
      have e1 : C.stakeC o b n = 0 := by unfold Ch.stakeC; rw [if_neg (not_not_intro ho)]; exact hj
      have e2 : C.stake o b n = { C with p := C.p.out o n, s := C.s.join o b n } := if_pos e1
      have H3 := hide h3
      clear h3
      go_wp2_with fail
      go_ret
      exact ⟨_, _, rfl, .inl ⟨e1, rfl⟩, e2 ▸ H3.out.more (by omega), M13⟩
    · obtain ⟨j, rfl⟩ := hE3.err hj
      have e1 : C.stakeC o b n = C.s.joinC o b n := by unfold Ch.stakeC; rw [if_neg (not_not_intro ho)]
      have e2 : C.stake o b n = C := if_neg (by rw [e1]; exact hj)
      have e3 : C.s.join o b n = C.s := Sk.join_same hj
      have I := pu_in pb (C.p.out o n) (hp'.out' o n) o n A w3 L3.pur h3.p
      have H3 := hide h3
      clear h3
      go_wp2_with fail
      refine I.mono ?_
      rintro e w4 ⟨ev4, rfl, _, hp4, hK4⟩
      have h4 := H3.out.purse hp4 hK4
      have M4 := H3.out.purseMoved hK4
      rw [Pu.out_in hp' ho] at h4
      have H4 := hide h4
      clear h4 hp4 hK4 I
      go_wp2_with fail
      go_ret
      refine ⟨_, _, rfl, e1 ▸ hE3, ?_, M13.trans M4⟩
      rw [e2]
      have := H4.out.more (g' := g + 2000) (by omega)
      rw [e3] at this
      exact this
  · obtain ⟨j, rfl⟩ := hE.err ho
    have e1 : C.stakeC o b n = C.p.outC o n := if_pos ho
    have e2 : C.stake o b n = C := if_neg (by rw [e1]; exact ho)
    have e3 : C.p.out o n = C.p := if_neg ho
    have H2 := hide h2
    clear h2 h1
    go_wp2_with fail
    go_ret
    refine ⟨_, _, rfl, e1 ▸ hE, ?_, M12⟩
    rw [e2]
    have := H2.out.more (g' := g + 2000) (by omega)
    rw [e3] at this
    exact this
end Go.Proofs.YtaihcceobnfmhaaDoor
