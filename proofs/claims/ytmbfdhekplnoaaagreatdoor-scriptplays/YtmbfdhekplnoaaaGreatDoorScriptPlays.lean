/-
  For every uint64 and every slice of lines the law ScriptPlays of package bakehouselaw3 returns true, and the slice reads as it did (what package api's ten errors and package errors' errorType hold as the program's text lays them: tied).
-/
import Derived.Test.YtmbfdhekplnoaaaGreatDoorIssueMathX
import Derived.Test.YtmbfdhekplnoaaaGreatDoorScriptPlaysEnds
import Derived.Test.YtmbfdhekplnoaaaGreatDoorLaidScript
import Derived.Test.YtmbfdhekplnoaaaGreatDoorCards
import Derived.Lay
import Derived.Test.YtmbfdhekplnoaaaGreatDoorTie
import Derived.Test.YtmbfdhekplnoaaaGreatDoorLeaving
namespace Go.Proofs.YtmbfdhekplnoaaaGreatDoor.scriptPlays
open Go.ChangeShapes Go.WideShapes Go.ChangeAt Go.RowKit

theorem laidOut : laidOutB Tryz.prog = true := by kernel_rfl

theorem door_fits (os : Os) : (World.doorLaid Tryz.prog 231 os).layFits Tryz.prog ((Rows.scriptPlaysRow.laid.filter fun x => x.2.handleName?.isNone).filter fun x => ["unicode/utf8.first"].contains x.1) ((List.range (World.doorLaid Tryz.prog 231 os).heap.size).filter fun b => b != 15) = true := by kernel_rfl
theorem door_ifs (os : Os) (args : Array Value) : (World.doorLaid Tryz.prog 231 os).layIfaces Tryz.prog ((Rows.scriptPlaysRow.laid.filter fun x => x.2.handleName?.isNone).filter fun x => ["unicode/utf8.first"].contains x.1) (((World.doorLaid Tryz.prog 231 os).layVars Tryz.prog [("unicode/utf8.first", Rows.laid_unicode_utf8_first)]).forCall (fun _ _ => 0) ⟨#[], args, []⟩).memory = true := by kernel_rfl
theorem door_run (os : Os) (args : Array Value) : LaidIn Tryz.prog (((World.doorLaid Tryz.prog 231 os).layVars Tryz.prog [("unicode/utf8.first", Rows.laid_unicode_utf8_first)]).forCall (fun _ _ => 0) ⟨#[], args, []⟩).memory ((Rows.scriptPlaysRow.laid.filter fun x => x.2.handleName?.isNone).filter fun x => !["unicode/utf8.first"].contains x.1) ((List.range (World.doorLaid Tryz.prog 231 os).heap.size).filter fun b => b != 15) :=
  LaidIn.of_run _ 8 (by kernel_rfl) (by kernel_rfl) (by kernel_rfl) (by kernel_rfl)
theorem door_heap (os : Os) (args : Array Value) : (((World.doorLaid Tryz.prog 231 os).layVars Tryz.prog [("unicode/utf8.first", Rows.laid_unicode_utf8_first)]).forCall (fun _ _ => 0) ⟨#[], args, []⟩).memory.heap = ((World.doorLaid Tryz.prog 231 os).layVars Tryz.prog ((Rows.scriptPlaysRow.laid.filter fun x => x.2.handleName?.isNone).filter fun x => ["unicode/utf8.first"].contains x.1)).heap := by
  have e : ((Rows.scriptPlaysRow.laid.filter fun x => x.2.handleName?.isNone).filter fun x => ["unicode/utf8.first"].contains x.1) = [("unicode/utf8.first", Rows.laid_unicode_utf8_first)] := rfl
  rw [e]
  simp [World.memory, World.forCall, Input.heap]
theorem door_met (os : Os) (args : Array Value) : laidMetH Tryz.prog Rows.scriptPlaysRow.laid (((World.doorLaid Tryz.prog 231 os).layVars Tryz.prog [("unicode/utf8.first", Rows.laid_unicode_utf8_first)]).forCall (fun _ _ => 0) ⟨#[], args, []⟩).memory :=
  laidMetH_of_parts3 (fuel := 8) (laidMet_layVars (w0 := World.doorLaid Tryz.prog 231 os) ["unicode/utf8.first"] ((List.range (World.doorLaid Tryz.prog 231 os).heap.size).filter fun b => b != 15) (door_heap os args) (door_fits os) (door_ifs os args) (door_run os args)) (by kernel_rfl) (by kernel_rfl)


set_option maxRecDepth 100000 in
theorem lifted (os : Os) (started : os.Started) (H : Type) (enc : TypeId × Value → H) :
    ReturnsInHanded {} Tryz.checked os 5 .any (fun w args => (Rows.scriptPlaysSpec.pre enc Tryz.prog Tryz.f5 [] false w args ∧ laidMetH Tryz.prog Rows.scriptPlaysRow.laid w) ∧ sizedMet enc Tryz.prog Tryz.f5 (OpenSpec.ofChange Rows.scriptPlaysSpec) false w args)
      (Rows.scriptPlaysSpec.post enc Tryz.prog Tryz.f5 false true false false) := by
  refine returnsInHanded_of_change_and (C := Tryz.checked) (X := fun w _ => laidMetH Tryz.prog Rows.scriptPlaysRow.laid w) (fun _ _ _ hh h => h.of_heap hh) Tryz.own started (by kernel_rfl) Tryz.func5
    (ChangeSpec.witness_shaped (enc := enc) (C := Tryz.checked) (os := os) (X := fun w _ => laidMetH Tryz.prog Rows.scriptPlaysRow.laid w) false ((World.doorLaid Tryz.prog 231 os).layVars Tryz.prog [("unicode/utf8.first", Rows.laid_unicode_utf8_first)]) #[.int .u64 0, .slice none 0 0] 8 (World.layVars_os _ _ _) (World.shaped_of_ZipB (by kernel_rfl) (by kernel_rfl)) (by kernel_rfl) (by kernel_rfl) (by kernel_rfl) (door_met os _)) ?_
  intro W base args ds gs before hval0 hW _ _ hL _
  have hval : ∀ (j : Nat) t v, Tryz.f5.params[j]? = some t → args[j]? = some v → Value.okWide Tryz.prog W .any base t v := hval0
  have hW' := hW
  obtain ⟨p, q, hA0, hV, rfl, hfz, hnd⟩ := hW
  have hA : DataW.TrodAll enc Tryz.prog W 0 (fun _ => true) true Tryz.f5.params.toList args.toList ds p := hA0
  rw [Tryz.params5] at hA hval
  obtain ⟨v0, vs0, d0, ds0, p0, q0, hargs, rfl, rfl, h0, r0⟩ := trodAll_cons hA
  obtain ⟨v1, vs1, d1, ds1, p1, q1, rfl, rfl, rfl, h1, r1⟩ := trodAll_cons r0
  obtain ⟨rfl, rfl, rfl⟩ := trodAll_nil r1
  obtain rfl : args = #[v0, v1] := by cases args; simp_all
  obtain ⟨rfl, rfl⟩ := trodVars_none hV
  obtain ⟨xseed, rfl, rfl, rfl, wseed⟩ := open_int Tryz.underlying22 (hval 0 22 v0 rfl rfl) h0
  obtain ⟨seed, rfl, ltseed⟩ := u64_nat wseed
  obtain ⟨al, lenl, capl, rfl⟩ := okWide_slice Tryz.underlying34 (hval 1 34 v1 rfl rfl)
  have kl := h1
  have ltl : ∀ x ∈ p1, x.block < W.heap.size := by obtain ⟨m, hm⟩ := kl; exact DataW.trod_lt m _ _ _ hm
  have sl := lines_of h1
  clear hA0 hval0
  obtain ⟨A, hLa⟩ := Scs.of_ten hL
  refine (scriptPlays_any seed ltseed al lenl capl A W hLa sl).mono fun e W' ⟨he, bel⟩ => ?_
  subst he
  exact ⟨_, rfl, _, _, _, [], _, [], hW', trodAll_mk1 (shut_bool Tryz.underlying4 _), (trodAll_cons_mk (shut_int Tryz.underlying22 wseed) (trodAll_cons_mk (Below.trod laidOut (by kernel_rfl) (of_decide_eq_true (by kernel_rfl)) kl bel ltl) trodAll_mk0)), rfl, bel.frame _, fun h => by cases h⟩

theorem facts1 : (Rows.scriptPlaysRow.inPlace == Tryz.prog.inPlace 5) = true := by kernel_rfl
theorem facts2 : (Rows.scriptPlaysRow.unfollowed == Tryz.prog.unfollowed 5) = true := by kernel_rfl
theorem facts3 : (Rows.scriptPlaysRow.recurses == Tryz.prog.recurses 5) = true := by kernel_rfl
theorem facts4 : (Rows.scriptPlaysRow.named == Tryz.prog.varsNamed 5) = true := by kernel_rfl
theorem facts : joinedFacts Tryz.prog 5 Tryz.f5 Rows.scriptPlaysSpec Rows.scriptPlaysRow = true := by
  unfold joinedFacts
  rw [facts1, facts2, facts3, facts4]
  kernel_rfl
theorem said : Rows.ScriptPlaysSaid :=
  OpenClaim.holds_of_wide_leaving 5 Tryz.f5 rfl rfl rfl rfl rfl rfl rfl ⟨rfl, rfl, rfl, rfl, rfl⟩ rfl rfl rfl rfl rfl (by kernel_rfl) Tryz.func5 facts
    (of_decide_eq_true (by kernel_rfl)) (by unfold Func.isWrapper; first | (rw [if_pos (by decide +kernel)]; kernel_rfl) | (rw [if_neg (by decide +kernel)]; exact ⟨rfl, rfl⟩))
    (fun os started H enc _ => handed_leaving (lifted os started H enc))

theorem plain (f : FuncId) (fn : Func) (hf : Tryz.pinned.checked.prog.funcNamed "bakehouse/bakehouselaw3.ScriptPlays" = some f) (hfn : Tryz.pinned.checked.prog.funcs[f]? = some fn) :
    true = Tryz.pinned.checked.prog.looks [] ∧ ∀ (j : Nat) t, fn.params[j]? = some t → Tryz.pinned.checked.prog.wantsStandIn t = false := by
  obtain rfl : f = 5 := Option.some.inj ((show Tryz.prog.funcNamed "bakehouse/bakehouselaw3.ScriptPlays" = some 5 by kernel_rfl).symm.trans hf) |>.symm
  obtain rfl : fn = Tryz.f5 := (Option.some.inj (Tryz.func5.symm.trans hfn)).symm
  refine ⟨by kernel_rfl, fun j t ht => ?_⟩
  rw [Tryz.params5] at ht
  have hm := Array.mem_of_getElem? ht
  have hm' : t = 22 ∨ t = 34 := by simpa using hm
  rcases hm' with rfl | rfl
  · exact (show Tryz.prog.wantsStandIn 22 = false by kernel_rfl)
  · exact (show Tryz.prog.wantsStandIn 34 = false by kernel_rfl)
end Go.Proofs.YtmbfdhekplnoaaaGreatDoor.scriptPlays
namespace Go.Proofs.YtmbfdhekplnoaaaGreatDoor
open Go.Proofs.YtmbfdhekplnoaaaGreatDoor.scriptPlays in
theorem scriptPlays_card : Rows.ScriptPlaysCardSaid :=
  holds_tied_plain_goes .later [] _ _ _ _ said (fun _ h => by cases h) (by kernel_rfl) (fun _ h => by cases h) scriptPlays_row_tie rfl ⟨rfl, rfl⟩ (by kernel_rfl) rfl plain (by kernel_rfl)
#print axioms scriptPlays_card
end Go.Proofs.YtmbfdhekplnoaaaGreatDoor
