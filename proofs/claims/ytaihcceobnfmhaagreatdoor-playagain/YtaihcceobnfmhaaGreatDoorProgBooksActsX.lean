/-
  The program's chain by its contracts: whose turn it is.
  The program's books by their contracts: stake, free.
-/
import Derived.Test.YtaihcceobnfmhaaGreatDoorProgChainTellsX
import Derived.Test.YtaihcceobnfmhaaGreatDoorProgRightX
import Derived.Deep.RegionHeld3
namespace Go.Proofs.YtaihcceobnfmhaaGreatDoor
open Go.RowKit

set_option maxRecDepth 100000 in
set_option maxHeartbeats 1000000 in
theorem rb_bad1 (a : Option Addr) (n cap seed : Nat) (c l r : Int) (h : ¬ TurnOk c l r) (A : Nat → Addr) (w : World) (v1 : w.cell? ⟨0, 0, none⟩ = some (sent (A 1))) :
    Calls Tryz.prog 12 #[.slice a n cap, .int .u64 seed, .int .i64 c, .int .i64 l, .int .i64 r] w fun e w' => e = .returned (.tuple #[.int .i64 0, sent (A 1)]) ∧ Below w.heap.size w w' := by
  by_cases ht : (0 ≤ c ∧ c ≤ 1048576) ∧ 0 ≤ l ∧ l ≤ 4194304
  · have T := time_yes c l ht.1.1 ht.1.2 ht.2.1 ht.2.2
    have R := round_no r (fun g => h ⟨ht.1, ht.2, g⟩)
    clear h ht
    go_enter Tryz.func12, Tryz.ntmps12
    go_wp2_with (first | (go_at_call 42; refine (T _).mono ?_; rintro e w' ⟨rfl, rfl⟩) | (go_at_call 43; refine (R _).mono ?_; rintro e w' ⟨rfl, rfl⟩))
    go_quiet (fail)
    go_wp2
    go_ret2
    exact ⟨rfl, below_drewN (Below.refl _ _) _⟩
  · have T := time_no c l ht
    clear h ht
    go_enter Tryz.func12, Tryz.ntmps12
    go_wp2_with (go_at_call 42; refine (T _).mono ?_; rintro e w' ⟨rfl, rfl⟩)
    go_quiet (fail)
    go_wp2
    go_ret2
    exact ⟨rfl, below_drewN (Below.refl _ _) _⟩
theorem drew_below {w w' : World} (h : Below w.drew.heap.size w.drew w') : Below w.heap.size w w' := ⟨h.os, h.tape, h.output, h.size, h.block⟩
theorem was_cellP {w w' : World} (hB : Below w.heap.size w w') {a : Addr} {v : Value} (h : w.cell? a = some v) : w'.cell? a = some v := by rw [hB.cell (cell_lt h)]; exact h
/-- this cycle's picture, as it lies -/
theorem PChAt.now {tag : Nat → Nat} {w : World} {cb pb sb kb g : Nat} {xs : Nat → Value} {C : Ch} (hC : C.Ok) (h : PChAt tag w cb pb sb kb xs C g) : ∃ m cap', w.cell? ⟨cb, 7, none⟩ = some (.slice (some ⟨m, 0, none⟩) 3 cap') ∧ m < w.heap.size ∧ Ints w m 0 3 C.pic := by
  have hl := hC.len
  have hW : (C.pics.drop C.cyc)[0]? = some C.pic := by
    rw [List.getElem?_drop, Nat.add_zero]
    unfold Ch.pic
    rw [List.getD_eq_getElem?_getD, List.getElem?_eq_getElem (by omega)]
    rfl
  obtain ⟨m, cap', e, tm, I⟩ := h.pics.one 0 _ (by omega) hW
  exact ⟨m, cap', by rw [h.c7, e], h.lt m (by rw [tm]; decide), I⟩
set_option maxRecDepth 100000 in
set_option maxHeartbeats 1000000 in
theorem pcb_turn {sb : Nat} (F : Nat → Prop) (cb : Nat) (C : Ch) (hC : C.Ok) (_hb : C.Few) (g : Nat) (r : Int) (hr : TurnOk C.cyc C.lev r) (A : Nat → Addr) (w : World) (_hL : ChLaid8 w A) (h : PCb sb F w cb C g) :
    Calls Tryz.prog 11 #[.pointer (some ⟨cb, 0, none⟩), .int .i64 r] w fun e w' => ∃ k, e = .returned (.tuple #[.int .i64 k, .nilIface]) ∧ Turn 3 C.pic C.seed C.cyc C.lev r k ∧ Below w.heap.size w w' := by
  obtain ⟨tag, pb, kb, xs, hf, h⟩ := h
  obtain ⟨m, cap', c7, lm, I⟩ := h.now hC
  have c3 := h.c3
  have c4 := h.c4
  have c5 := h.c5
  have hT := hide hC.turn
  have sd := hide hC.seed
  clear h
  go_enter Tryz.func11, Tryz.ntmps11
  go_wp2_with fail
  go_region_held3 (fun w' => w'.cell? ⟨cb, 7, none⟩ = some (.slice (some ⟨m, 0, none⟩) 3 cap') ∧ w'.cell? ⟨cb, 3, none⟩ = some (.int .u64 C.seed) ∧ w'.cell? ⟨cb, 4, none⟩ = some (.int .i64 C.cyc) ∧ w'.cell? ⟨cb, 5, none⟩ = some (.int .i64 C.lev)) (exact ⟨by assumption, by assumption, by assumption, by assumption⟩)
    (first
      | (go_at_call 12; refine (rb_fine m 0 3 cap' C.seed C.pic C.cyc C.lev r hr sd.out _ (by first | exact I | exact fun i hi => I i hi) (by first | exact lm | (simp; exact lm)) hT.out.1 hT.out.2).mono ?_; rintro e w5 ⟨k, rfl, T, hB5⟩; have d7 := was_cellP hB5 c7; have d3 := was_cellP hB5 c3; have d4 := was_cellP hB5 c4; have d5 := was_cellP hB5 c5))
  go_wp2_with fail
  go_ret2
  exact ⟨_, rfl, T, drew_below hB5⟩
set_option maxRecDepth 100000 in
set_option maxHeartbeats 1000000 in
theorem pcb_turn_bad {sb : Nat} (F : Nat → Prop) (cb : Nat) (C : Ch) (hC : C.Ok) (_hb : C.Few) (g : Nat) (r : Int) (hr : ¬ TurnOk C.cyc C.lev r) (A : Nat → Addr) (w : World) (hL : ChLaid8 w A) (h : PCb sb F w cb C g) :
    Calls Tryz.prog 11 #[.pointer (some ⟨cb, 0, none⟩), .int .i64 r] w fun e w' => ∃ ev, e = .returned (.tuple #[.int .i64 0, ev]) ∧ ErrIs A ev 2 ∧ Below w.heap.size w w' := by
  obtain ⟨tag, pb, kb, xs, hf, h⟩ := h
  obtain ⟨m, cap', c7, lm, I⟩ := h.now hC
  have c3 := h.c3
  have c4 := h.c4
  have c5 := h.c5
  have v1 := hL.v1
  clear h I
  go_enter Tryz.func11, Tryz.ntmps11
  go_wp2_with fail
  go_region_held3 (fun w' => w'.cell? ⟨cb, 7, none⟩ = some (.slice (some ⟨m, 0, none⟩) 3 cap') ∧ w'.cell? ⟨cb, 3, none⟩ = some (.int .u64 C.seed) ∧ w'.cell? ⟨cb, 4, none⟩ = some (.int .i64 C.cyc) ∧ w'.cell? ⟨cb, 5, none⟩ = some (.int .i64 C.lev)) (exact ⟨by assumption, by assumption, by assumption, by assumption⟩)
    (first
      | (go_at_call 12; refine (rb_bad1 _ 3 cap' C.seed C.cyc C.lev r hr A _ (by first | exact v1 | simpa using v1)).mono ?_; rintro e w5 ⟨rfl, hB5⟩; have d7 := was_cellP hB5 c7; have d3 := was_cellP hB5 c3; have d4 := was_cellP hB5 c4; have d5 := was_cellP hB5 c5))
  go_wp2_with fail
  go_ret2
  exact ⟨_, rfl, .inr ⟨1, by omega, rfl, rfl⟩, drew_below hB5⟩
end Go.Proofs.YtaihcceobnfmhaaGreatDoor

namespace Go.Proofs.YtaihcceobnfmhaaGreatDoor
open Go.RowKit

theorem small_wf (d : Int) (h0 : -9223372036854775808 ≤ d) (h1 : d ≤ 9223372036854775807) : (Lit.int .i64 d).wf = true := by
  have h : IntKind.i64.min ≤ d := h0
  simp [Lit.wf, h]
  omega
theorem moved_drew {F F' : Nat → Prop} {w w' : World} (h : Moved F F' w.drew w') : Moved F F' w w' := ⟨⟨h.kept.os, h.kept.tape, h.kept.output, h.kept.size, h.kept.block⟩, h.old⟩
/-- a copy of the books -/
structure BkBox (w : World) (nb pb sb : Nat) : Prop where
  e0 : w.cell? ⟨nb, 0, none⟩ = some (.pointer (some ⟨pb, 0, none⟩))
  e1 : w.cell? ⟨nb, 1, none⟩ = some (.pointer (some ⟨sb, 0, none⟩))
theorem box_new (w : World) (t : TypeId) (pb sb : Nat) : BkBox (w.alloc (.cells #[.pointer (some ⟨pb, 0, none⟩), .pointer (some ⟨sb, 0, none⟩)] t)) w.heap.size pb sb := ⟨by simp, by simp⟩
theorem BkBox.keptP {w w' : World} {nb pb sb : Nat} {H : Nat → Prop} (h : BkBox w nb pb sb) (hK : KeptP H w w') (hn : ¬ H nb) : BkBox w' nb pb sb := ⟨hK.old h.e0 hn, hK.old h.e1 hn⟩
theorem BkBox.below {w w' : World} {nb pb sb : Nat} (h : BkBox w nb pb sb) (hB : Below w.heap.size w w') : BkBox w' nb pb sb := ⟨was_cellP hB h.e0, was_cellP hB h.e1⟩
/-- an act's end -/
def BkEnd (G : Nat → Prop) (pb sb g : Nat) (C' : Ch) (c : Int) (A : Nat → Addr) (w : World) (e : Ending) (w' : World) : Prop := ∃ ev G', e = .returned ev ∧ ErrIs A ev c ∧ BksAt G' w' pb sb C' (g + 2000) ∧ Moved (bksOwn pb G) (bksOwn pb G') w w'
def BkEndN (G : Nat → Prop) (pb sb g : Nat) (C' : Ch) (n c : Int) (A : Nat → Addr) (w : World) (e : Ending) (w' : World) : Prop := ∃ ev G', e = .returned (.tuple #[.int .i64 n, ev]) ∧ ErrIs A ev c ∧ BksAt G' w' pb sb C' (g + 2000) ∧ Moved (bksOwn pb G) (bksOwn pb G') w w'

set_option maxRecDepth 100000 in
set_option maxHeartbeats 1000000 in
theorem bks_stake (G : Nat → Prop) (pb sb : Nat) (C : Ch) (hp' : C.p.Ok) (hs : C.s.Ok) (g : Nat) (hg : g ≤ 850000) (o b n : Int) (wo : (Lit.int .i64 o).wf = true) (A : Nat → Addr) (w : World) (hL : ChLaid8 w A) (h : BksAt G w pb sb C g) :
    Calls Tryz.prog 91 #[.agg #[.pointer (some ⟨pb, 0, none⟩), .pointer (some ⟨sb, 0, none⟩)], .int .i64 o, .int .i64 b, .int .i64 n] w (BkEnd G pb sb g (C.stake o b n) (C.stakeC o b n) A w) := by
  have B : Below w.heap.size w (w.alloc (.cells #[.pointer (some ⟨pb, 0, none⟩), .pointer (some ⟨sb, 0, none⟩)] 70)) := (Below.refl _ _).alloc (Nat.le_refl _) _
  have X := box_new w 70 pb sb
  have e0 := X.e0
  have h1 := h.below B
  have L1 := hL.below B
  have M1 : Moved (bksOwn pb G) (bksOwn pb G) w (w.alloc (.cells #[.pointer (some ⟨pb, 0, none⟩), .pointer (some ⟨sb, 0, none⟩)] 70)) := ⟨KeptP.of_below B, fun _ _ q => q⟩
  have nn : ¬ bksOwn pb G w.heap.size := fun q => by have := h.lt _ q; omega
  have P := pu_out pb C.p hp' o n A _ L1.pur h1.p
  clear h hL B
  go_enter Tryz.func91, Tryz.ntmps91
  go_wp2_with fail
  generalize hn : w.heap.size = nb at *
  generalize w.alloc (.cells #[.pointer (some ⟨pb, 0, none⟩), .pointer (some ⟨sb, 0, none⟩)] 70) = w1 at *
  refine P.mono ?_
  rintro e w2 ⟨ev, rfl, hE, hp, hK⟩
  have h2 := h1.purse hp hK
  have M2 := h1.purseMoved hK
  have X2 := X.keptP M2.kept nn
  have L2 := h1.laid L1 M2.kept
  have M12 := M1.trans M2
  have e1 := X2.e1
  have lt2 := h2.lt
  clear P hp hK e0 X L1 M1 M2
  by_cases ho : C.p.outC o n = 0
  · obtain rfl := hE.nil ho
    have J := ps_join G sb C.s hs g (by omega) o b n wo A w2 L2.stk h2.s
    have H2 := hide h2
    clear hE h2 h1
    go_wp2_with fail
    refine J.mono ?_
    rintro e w3 ⟨ev3, G3, rfl, hE3, hS, hM⟩
    have h3 := H2.out.stakes hS hM
    have M3 := H2.out.stakesMoved hM
    have X3 := X2.keptP M3.kept nn
    have L3 := H2.out.laid L2 M3.kept
    have M13 := M12.trans M3
    have f0 := X3.e0
    clear J H2 hS hM X2 e1 L2 M12
    by_cases hj : C.s.joinC o b n = 0
    · obtain rfl := hE3.nil hj
      have e1 : C.stakeC o b n = 0 := by unfold Ch.stakeC; rw [if_neg (not_not_intro ho)]; exact hj
      have e2 : C.stake o b n = { C with p := C.p.out o n, s := C.s.join o b n } := if_pos e1
      have H3 := hide h3
      clear h3
      go_wp2_with fail
      go_ret
      exact ⟨_, _, rfl, .inl ⟨e1, rfl⟩, e2 ▸ H3.out.more (by omega), M13⟩
    · obtain ⟨j, rfl⟩ := hE3.err hj
      have e1 : C.stakeC o b n = C.s.joinC o b n := by unfold Ch.stakeC; rw [if_neg (not_not_intro ho)]
      have e2 : C.stake o b n = C := if_neg (by rw [e1]; exact hj)
      have e3 : C.s.join o b n = C.s := Sk.join_same hj
      have I := pu_in pb (C.p.out o n) (hp'.out' o n) o n A w3 L3.pur h3.p
      have H3 := hide h3
      clear h3
      go_wp2_with fail
      refine I.mono ?_
      rintro e w4 ⟨ev4, rfl, _, hp4, hK4⟩
      have h4 := H3.out.purse hp4 hK4
      have M4 := H3.out.purseMoved hK4
      rw [Pu.out_in hp' ho] at h4
      have H4 := hide h4
      clear h4 hp4 hK4 I
      go_wp2_with fail
      go_ret
      refine ⟨_, _, rfl, e1 ▸ hE3, ?_, M13.trans M4⟩
      rw [e2]
      have := H4.out.more (g' := g + 2000) (by omega)
      rw [e3] at this
      exact this
  · obtain ⟨j, rfl⟩ := hE.err ho
    have e1 : C.stakeC o b n = C.p.outC o n := if_pos ho
    have e2 : C.stake o b n = C := if_neg (by rw [e1]; exact ho)
    have e3 : C.p.out o n = C.p := if_neg ho
    have H2 := hide h2
    clear h2 h1
    go_wp2_with fail
    go_ret
    refine ⟨_, _, rfl, e1 ▸ hE, ?_, M12⟩
    rw [e2]
    have := H2.out.more (g' := g + 2000) (by omega)
    rw [e3] at this
    exact this
set_option maxRecDepth 100000 in
set_option maxHeartbeats 1000000 in
theorem bks_free (G : Nat → Prop) (pb sb : Nat) (C : Ch) (hC : C.Ok) (hk : C.s.K.length ≤ 900) (g : Nat) (hg : g ≤ 850000) (o : Int) (wo : (Lit.int .i64 o).wf = true) (wc : (Lit.int .i64 (C.cyc : Int)).wf = true) (A : Nat → Addr) (w : World) (hL : ChLaid8 w A) (h : BksAt G w pb sb C g) :
    Calls Tryz.prog 115 #[.agg #[.pointer (some ⟨pb, 0, none⟩), .pointer (some ⟨sb, 0, none⟩)], .int .i64 o, .int .i64 C.cyc] w (BkEndN G pb sb g (C.free o) (C.s.freeN o C.cyc) (C.s.freeC o C.cyc) A w) := by
  have B : Below w.heap.size w (w.alloc (.cells #[.pointer (some ⟨pb, 0, none⟩), .pointer (some ⟨sb, 0, none⟩)] 70)) := (Below.refl _ _).alloc (Nat.le_refl _) _
  have X := box_new w 70 pb sb
  have e1 := X.e1
  have h1 := h.below B
  have L1 := hL.below B
  have M1 : Moved (bksOwn pb G) (bksOwn pb G) w (w.alloc (.cells #[.pointer (some ⟨pb, 0, none⟩), .pointer (some ⟨sb, 0, none⟩)] 70)) := ⟨KeptP.of_below B, fun _ _ q => q⟩
  have nn : ¬ bksOwn pb G w.heap.size := fun q => by have := h.lt _ q; omega
  have P := ps_free G sb C.s hC.s hk g (by omega) o C.cyc wo wc A _ L1.stk h1.s
  clear h hL B
  go_enter Tryz.func115, Tryz.ntmps115
  go_wp2_with fail
  generalize hn : w.heap.size = nb at *
  generalize w.alloc (.cells #[.pointer (some ⟨pb, 0, none⟩), .pointer (some ⟨sb, 0, none⟩)] 70) = w1 at *
  refine P.mono ?_
  rintro e w2 ⟨ev, G2, rfl, hE, hS, hM⟩
  have h2 := h1.stakes hS hM
  have M2 := h1.stakesMoved hM
  have X2 := X.keptP M2.kept nn
  have L2 := h1.laid L1 M2.kept
  have M12 := M1.trans M2
  have e0 := X2.e0
  clear P hS hM e1 X L1 M1 M2 h1
  by_cases hj : C.s.freeC o C.cyc = 0
  · obtain rfl := hE.nil hj
    have e2 : C.free o = { C with p := C.p.in' o (C.s.freeN o C.cyc), s := C.s.free o C.cyc } := if_pos hj
    have I := pu_in pb C.p hC.p o (C.s.freeN o C.cyc) A w2 L2.pur h2.p
    have H2 := hide h2
    clear h2
    go_wp2_with fail
    refine I.mono ?_
    rintro e w3 ⟨ev3, rfl, _, hp, hK⟩
    have h3 := H2.out.purse hp hK
    have M3 := H2.out.purseMoved hK
    have H3 := hide h3
    clear h3 hp hK I e0
    go_wp2_with fail
    go_ret2
    exact ⟨_, _, rfl, .inl ⟨hj, rfl⟩, e2 ▸ H3.out.more (by omega), M12.trans M3⟩
  · obtain ⟨j, rfl⟩ := hE.err hj
    have e2 : C.free o = C := if_neg hj
    have e3 : C.s.free o C.cyc = C.s := hC.s.free_same hj
    have e4 := hide (Sk.freeN_same hj)
    have H2 := hide h2
    clear h2
    rw [e4.out]
    go_wp2_with fail
    go_ret2
    refine ⟨_, _, ret_pair e4.out.symm _, hE, ?_, M12⟩
    rw [e2]
    have := H2.out.more (g' := g + 2000) (by omega)
    rw [e3] at this
    exact this
end Go.Proofs.YtaihcceobnfmhaaGreatDoor
