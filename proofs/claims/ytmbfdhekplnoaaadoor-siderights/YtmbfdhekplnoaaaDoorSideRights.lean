/-
  For every two slices of ints, every uint64 and every two ints the law SideRights of package bakehouselaw3 returns true, in whatever order its goroutines go, and the slices read as they did (what package api's ten errors and package errors' errorType hold as the program's text lays them: tied).
-/
import Derived.Test.YtmbfdhekplnoaaaDoorU64InX
import Derived.Test.YtmbfdhekplnoaaaDoorSentX
import Derived.Test.YtmbfdhekplnoaaaDoorLeavingX
import Derived.Test.YtmbfdhekplnoaaaDoorCards
import Derived.Test.YtmbfdhekplnoaaaDoorTie
import Derived.Conc.LeavingOf
namespace Go.Proofs.YtmbfdhekplnoaaaDoor.sideRights
open Go.ChangeShapes Go.WideShapes Go.ChangeAt Go.RowKit

theorem laidOut : laidOutB Tryd.prog = true := by kernel_rfl

theorem door_met (os : Os) (args : Array Value) : laidMetH Tryd.prog Rows.sideRightsRow.laid ((World.doorLaid Tryd.prog 206 os).forCall (fun _ _ => 0) ⟨#[], args, []⟩).memory :=
  laidMetH_of_parts3 (fuel := 8) (laidMet_of_run' 8 (by kernel_rfl) (by kernel_rfl)) (by kernel_rfl) (by kernel_rfl)
theorem are_of {W : World} {a : Option Addr} {n cap : Nat} (h : IsInts W a n cap) : ∃ Z, IntsAre W a n Z := by
  rcases h with h | ⟨b, off, Z, rfl, hb, _, _, hI, _⟩
  · exact ⟨fun _ => 0, .inl h⟩
  · exact ⟨Z, .inr ⟨b, off, rfl, hb, hI⟩⟩

set_option maxRecDepth 100000 in
theorem lifted (os : Os) (started : os.Started) (H : Type) (enc : TypeId × Value → H) :
    ReturnsInLeavingWide {} Tryd.checked os 3 .any (fun w args => (Rows.sideRightsSpec.pre enc Tryd.prog Tryd.f3 [] false w args ∧ laidMetH Tryd.prog Rows.sideRightsRow.laid w) ∧ sizedMet enc Tryd.prog Tryd.f3 (OpenSpec.ofChange Rows.sideRightsSpec) false w args)
      (Rows.sideRightsSpec.post enc Tryd.prog Tryd.f3 false true false false) := by
  refine returnsInLeavingWide_of_good (C := Tryd.checked) Tryd.own started
    (ChangeSpec.witness_shaped (enc := enc) (C := Tryd.checked) (os := os) (X := fun w _ => laidMetH Tryd.prog Rows.sideRightsRow.laid w) false (World.doorLaid Tryd.prog 206 os) #[.slice none 0 0, .int .u64 0, .int .i64 0, .slice none 0 0, .int .i64 0] 8 rfl (World.shaped_of_RefB (by kernel_rfl) (by kernel_rfl)) (by kernel_rfl) (by kernel_rfl) (by kernel_rfl) (door_met os _)) ?_
  intro w tape i _ hsh _ hok hpre _
  obtain ⟨_, _, _, fn', hfn', _, _, _, _, hval0⟩ := hok
  obtain rfl : fn' = Tryd.f3 := Option.some.inj (hfn'.symm.trans Tryd.func3)
  obtain ⟨⟨⟨ds, gs, before, hw, _⟩, hL0⟩, _⟩ := hpre
  have hW := DataW.Whole.of_heap (w' := w.forCall tape i) (by rfl) hw
  have hL : laidMetH Tryd.prog Rows.sideRightsRow.laid (w.forCall tape i) := hL0.of_heap (by rfl)
  suffices key : ∀ (W : World) (args : Array Value), W.ShapedOpen Tryd.prog → (∀ (j : Nat) t v, Tryd.f3.params[j]? = some t → args[j]? = some v → Value.okWide Tryd.prog W .any w.heap.size t v) → DataW.Whole enc Tryd.prog Tryd.f3.params.toList Rows.sideRightsSpec.vars false W args.toList ds gs before → laidMetH Tryd.prog Rows.sideRightsRow.laid W →
      EndsIn Tryd.prog (Go.Conc.Good Tryd.prog fun v W' => Rows.sideRightsSpec.post enc Tryd.prog Tryd.f3 false true false false W args v W') (Go.Conc.solo (Go.Conc.G (Frame.enter Tryd.prog 3 args .normal) []) W) #[] by
    obtain ⟨M, last, o, w', t', h1, h2, h3, h4⟩ := key (w.forCall tape i) i.args hsh hval0 hW hL
    exact ⟨M, last, o, w', t', h1, h2, h3, h4.mono fun v hp => ChangeSpec.post_blind hp⟩
  clear hval0 hw hW hL hL0 hsh hfn'
  intro W args hsh hval hW hL
  have hW' := hW
  obtain ⟨p, q, hA, hV, rfl, hfz, hnd⟩ := hW
  rw [Tryd.params3] at hA hval
  obtain ⟨v0, vs0, d0, ds0, p0, q0, hargs, rfl, rfl, h0, r0⟩ := trodAll_cons hA
  obtain ⟨v1, vs1, d1, ds1, p1, q1, rfl, rfl, rfl, h1, r1⟩ := trodAll_cons r0
  obtain ⟨v2, vs2, d2, ds2, p2, q2, rfl, rfl, rfl, h2, r2⟩ := trodAll_cons r1
  obtain ⟨v3, vs3, d3, ds3, p3, q3, rfl, rfl, rfl, h3, r3⟩ := trodAll_cons r2
  obtain ⟨v4, vs4, d4, ds4, p4, q4, rfl, rfl, rfl, h4, r4⟩ := trodAll_cons r3
  obtain ⟨rfl, rfl, rfl⟩ := trodAll_nil r4
  obtain rfl : args = #[v0, v1, v2, v3, v4] := by cases args; simp_all
  obtain ⟨rfl, rfl⟩ := trodVars_none hV
  obtain ⟨a, n, cap, rfl⟩ := okWide_slice Tryd.underlying22 (hval 0 22 v0 rfl rfl)
  have ltl : ∀ x ∈ p0, x.block < W.heap.size := by obtain ⟨m, hm⟩ := h0; exact DataW.trod_lt m _ _ _ hm
  obtain ⟨Wt, hI⟩ := are_of (ints_of h0)
  obtain ⟨l0, n0⟩ := lies_of Tryd.underlying22 (hval 0 22 _ rfl rfl)
  obtain ⟨xseed, rfl, rfl, rfl, wseed⟩ := open_int Tryd.underlying23 (hval 1 23 v1 rfl rfl) h1
  obtain ⟨seed, rfl, ltseed⟩ := u64_nat wseed
  obtain ⟨c, rfl, rfl, rfl, wc⟩ := open_int Tryd.underlying3 (hval 2 3 v2 rfl rfl) h2
  obtain ⟨la, ll, lc, rfl⟩ := okWide_slice Tryd.underlying22 (hval 3 22 v3 rfl rfl)
  have ltm : ∀ x ∈ p3, x.block < W.heap.size := by obtain ⟨m, hm⟩ := h3; exact DataW.trod_lt m _ _ _ hm
  obtain ⟨Lv, hJ⟩ := are_of (ints_of h3)
  obtain ⟨l3, n3⟩ := lies_of Tryd.underlying22 (hval 3 22 _ rfl rfl)
  obtain ⟨wk, rfl, rfl, rfl, wwk⟩ := open_int Tryd.underlying3 (hval 4 3 v4 rfl rfl) h4
  obtain ⟨A, hLa, hB⟩ := of_laid_bare hL
  obtain ⟨S, R, HH, hS, sa, sl⟩ := house_of hsh hLa hB l0 l3
  obtain ⟨M, last, o, w', t', e1, e2, e3, e4⟩ := run_of (law_all HH hS ltseed n0 n3 sa sl hI hJ (c := c) (wk := wk) (cap := cap) (lc := lc))
  refine ⟨M, last, o, w', t', e1, e2, e3, e4.mono fun v hp => ?_⟩
  obtain ⟨rfl, bel⟩ := hp
  exact ⟨_, _, _, [], _, [], hW', trodAll_mk1 (shut_bool Tryd.underlying4 _), (trodAll_cons_mk (Below.trod laidOut (by kernel_rfl) (of_decide_eq_true (by kernel_rfl)) h0 bel ltl) (trodAll_cons_mk (shut_int Tryd.underlying23 wseed) (trodAll_cons_mk (shut_int Tryd.underlying3 wc) (trodAll_cons_mk (Below.trod laidOut (by kernel_rfl) (of_decide_eq_true (by kernel_rfl)) h3 bel ltm) (trodAll_cons_mk (shut_int Tryd.underlying3 wwk) trodAll_mk0))))), rfl, bel.frame _, fun h => by cases h⟩

theorem said : Rows.SideRightsSaid :=
  OpenClaim.holds_of_wide_leaving 3 Tryd.f3 rfl rfl rfl rfl rfl rfl rfl ⟨rfl, rfl, rfl, rfl, rfl⟩ rfl rfl rfl rfl rfl (by kernel_rfl) Tryd.func3 (by kernel_rfl)
    (of_decide_eq_true (by kernel_rfl)) (by unfold Func.isWrapper; first | (rw [if_pos (by decide +kernel)]; kernel_rfl) | (rw [if_neg (by decide +kernel)]; exact ⟨rfl, rfl⟩))
    (fun os started H enc _ => lifted os started H enc)

theorem plain (f : FuncId) (fn : Func) (hf : Tryd.pinned.checked.prog.funcNamed "bakehouse/bakehouselaw3.SideRights" = some f) (hfn : Tryd.pinned.checked.prog.funcs[f]? = some fn) :
    true = Tryd.pinned.checked.prog.looks [] ∧ ∀ (j : Nat) t, fn.params[j]? = some t → Tryd.pinned.checked.prog.wantsStandIn t = false := by
  obtain rfl : f = 3 := Option.some.inj ((show Tryd.prog.funcNamed "bakehouse/bakehouselaw3.SideRights" = some 3 by kernel_rfl).symm.trans hf) |>.symm
  obtain rfl : fn = Tryd.f3 := (Option.some.inj (Tryd.func3.symm.trans hfn)).symm
  refine ⟨by kernel_rfl, fun j t ht => ?_⟩
  rw [Tryd.params3] at ht
  have hm := Array.mem_of_getElem? ht
  have hm' : t = 22 ∨ t = 23 ∨ t = 3 ∨ t = 22 ∨ t = 3 := by simpa using hm
  rcases hm' with rfl | rfl | rfl | rfl | rfl
  · exact (show Tryd.prog.wantsStandIn 22 = false by kernel_rfl)
  · exact (show Tryd.prog.wantsStandIn 23 = false by kernel_rfl)
  · exact (show Tryd.prog.wantsStandIn 3 = false by kernel_rfl)
  · exact (show Tryd.prog.wantsStandIn 22 = false by kernel_rfl)
  · exact (show Tryd.prog.wantsStandIn 3 = false by kernel_rfl)
end Go.Proofs.YtmbfdhekplnoaaaDoor.sideRights
namespace Go.Proofs.YtmbfdhekplnoaaaDoor
open Go.Proofs.YtmbfdhekplnoaaaDoor.sideRights in
theorem sideRights_card : Rows.SideRightsCardSaid :=
  holds_tied_plain_goes .later [] _ _ _ _ said (fun _ h => by cases h) (by kernel_rfl) (fun _ h => by cases h) sideRights_row_tie rfl ⟨rfl, rfl⟩ (by kernel_rfl) rfl plain (by kernel_rfl)
#print axioms sideRights_card
end Go.Proofs.YtmbfdhekplnoaaaDoor
