/-
  One act on the program's chain and on the document's: both answer the same.
-/
import Derived.Test.YtaihcceobnfmhaaGreatDoorChainDoX
import Derived.Test.YtaihcceobnfmhaaGreatDoorCoded3
import Derived.Test.YtaihcceobnfmhaaGreatDoorCoded2X
import Derived.Deep.RegionHeld3
namespace Go.Proofs.YtaihcceobnfmhaaGreatDoor
open Go.RowKit

/-- both after an act: the same chain -/
def BothC (B : Nat) (w0 w : World) (cb rb g i : Nat) : Prop := ∃ F G C g', C.Ok ∧ C.Fit i ∧ g' ≤ g ∧ PCh F w cb C g' ∧ RCh G w rb C ∧ Sides B w0 w F G
theorem Sides.oneC {B : Nat} {w0 w w' : World} {F F' G : Nat → Prop} {rb pb sb kb : Nat} {C : Ch} (h : Sides B w0 w F G) (hR : RChB G w rb pb sb kb C) (hM : Moved F F' w w') : RChB G w' rb pb sb kb C ∧ Sides B w0 w' F' G := ⟨hR.keptP hM.kept h.apart, h.one hR.lt hM⟩
theorem Sides.twoC {B : Nat} {w0 w w' : World} {F G G' : Nat → Prop} {cb g : Nat} {C : Ch} (h : Sides B w0 w F G) (hP : PCh F w cb C g) (hM : Moved G G' w w') : PCh F w' cb C g ∧ Sides B w0 w' F G' := ⟨hP.keptP hM.kept (fun k hg hf => h.apart k hf hg), h.two hP.lt hM⟩
set_option maxRecDepth 100000 in
set_option maxHeartbeats 4000000 in
theorem cact_pay (w0 : World) (F G : Nat → Prop) (cb rb : Nat) (C : Ch) (hC : C.Ok) (i : Nat) (hi : i ≤ 400) (hf : C.Fit i) (g : Nat) (hg : g ≤ 850000) (t : CA) (wf : t.Wf) (A : Nat → Addr) (w : World) (hL : Laid w0 A) (hP : PCh F w cb C g) (hR : RCh G w rb C) (hW : Sides w0.heap.size w0 w F G) (ty : (t.K.toList == [112, 97, 121]) = true) :
    Calls Tryz.prog 28 #[.pointer (some ⟨cb, 0, none⟩), .pointer (some ⟨rb, 0, none⟩), .agg #[.string t.K, .int .i64 t.o, .int .i64 t.t, .int .i64 t.b, .int .i64 t.n, .int .i64 t.r, .int .i64 t.eb, .int .i64 t.ey, .int .i64 t.em]] w fun e w' => e = .returned (.bool true) ∧ BothC w0.heap.size w0 w' cb rb (g + 2000) (i + 1) := by
  have s0 : (w.alloc (.cells #[.string t.K, .int .i64 t.o, .int .i64 t.t, .int .i64 t.b, .int .i64 t.n, .int .i64 t.r, .int .i64 t.eb, .int .i64 t.ey, .int .i64 t.em] 44)).cell? ⟨w.heap.size, 0, none⟩ = some (.string t.K) := by simp
  have s1 : (w.alloc (.cells #[.string t.K, .int .i64 t.o, .int .i64 t.t, .int .i64 t.b, .int .i64 t.n, .int .i64 t.r, .int .i64 t.eb, .int .i64 t.ey, .int .i64 t.em] 44)).cell? ⟨w.heap.size, 1, none⟩ = some (.int .i64 t.o) := by simp
  have s2 : (w.alloc (.cells #[.string t.K, .int .i64 t.o, .int .i64 t.t, .int .i64 t.b, .int .i64 t.n, .int .i64 t.r, .int .i64 t.eb, .int .i64 t.ey, .int .i64 t.em] 44)).cell? ⟨w.heap.size, 2, none⟩ = some (.int .i64 t.t) := by simp
  have s4 : (w.alloc (.cells #[.string t.K, .int .i64 t.o, .int .i64 t.t, .int .i64 t.b, .int .i64 t.n, .int .i64 t.r, .int .i64 t.eb, .int .i64 t.ey, .int .i64 t.em] 44)).cell? ⟨w.heap.size, 4, none⟩ = some (.int .i64 t.n) := by simp
  have hB4 : Below w.heap.size w (w.alloc (.cells #[.string t.K, .int .i64 t.o, .int .i64 t.t, .int .i64 t.b, .int .i64 t.n, .int .i64 t.r, .int .i64 t.eb, .int .i64 t.ey, .int .i64 t.em] 44)) := (Below.refl _ _).alloc (Nat.le_refl _) _
  obtain ⟨pb, sb, kb, hR⟩ := hR.parts
  have hP4 := hP.nextB hB4
  have hR4 := hR.nextB hB4
  have hW4 := hW.nextB hB4
  have L4 := hL.below hW4.below
  have few := hf.few hi
  have zF : ¬ F w.heap.size := fun g => by have := hP.lt _ g; omega
  have zG : ¬ G w.heap.size := fun g => by have := hR.lt _ g; omega
  have zR : ¬ F rb := fun g => hW.apart rb g hR.own
  clear hP hR hW hB4
  go_enter Tryz.func28, Tryz.ntmps28
  go_wp2_with fail
  generalize w.heap.size = na at *
  generalize w.alloc (.cells #[.string t.K, .int .i64 t.o, .int .i64 t.t, .int .i64 t.b, .int .i64 t.n, .int .i64 t.r, .int .i64 t.eb, .int .i64 t.ey, .int .i64 t.em] 44) = w4 at *
  have q0 : w4.cell? ⟨rb, 0, none⟩ = some (.pointer (some ⟨pb, 0, none⟩)) := hR4.c0
  go_region_held3 (fun w' => w'.cell? ⟨na, 1, none⟩ = some (.int .i64 t.o) ∧ w'.cell? ⟨na, 2, none⟩ = some (.int .i64 t.t) ∧ w'.cell? ⟨na, 4, none⟩ = some (.int .i64 t.n) ∧ w'.cell? ⟨rb, 0, none⟩ = some (.pointer (some ⟨pb, 0, none⟩))) (exact ⟨by assumption, by assumption, by assumption, by assumption⟩)
    (first
      | (go_at_call 53; refine (pch_pay F cb C hC few g hg t.o t.t t.n wf.o wf.t A _ (by first | exact L4.ch.e | exact (L4.drewN _).ch.e) (by first | exact hP4 | exact hP4.drewN _)).mono ?_; rintro e w5 ⟨ev, F5, rfl, hE5, hP5, hM5⟩; have s51 : w5.cell? ⟨na, 1, none⟩ = some (.int .i64 t.o) := hM5.cell s1 zF; have s52 : w5.cell? ⟨na, 2, none⟩ = some (.int .i64 t.t) := hM5.cell s2 zF; have s54 : w5.cell? ⟨na, 4, none⟩ = some (.int .i64 t.n) := hM5.cell s4 zF; have q50 : w5.cell? ⟨rb, 0, none⟩ = some (.pointer (some ⟨pb, 0, none⟩)) := hM5.cell q0 zR; obtain ⟨hR5, hW5⟩ := (by first | exact hW4.oneC hR4 hM5 | exact (hW4.drewN _).oneC (hR4.drewN _) hM5 : RChB G w5 rb pb sb kb C ∧ Sides w0.heap.size w0 w5 F5 G))
      | (go_at_call 72; refine (rchb_move G rb pb sb kb C hC t.o t.t t.n _ (by first | exact hR5 | exact hR5.drewN _)).mono ?_; rintro e w6 ⟨rfl, hR6, hM6⟩; have s61 : w6.cell? ⟨na, 1, none⟩ = some (.int .i64 t.o) := hM6.cell s51 zG; have s62 : w6.cell? ⟨na, 2, none⟩ = some (.int .i64 t.t) := hM6.cell s52 zG; have s64 : w6.cell? ⟨na, 4, none⟩ = some (.int .i64 t.n) := hM6.cell s54 zG; have q60 : w6.cell? ⟨rb, 0, none⟩ = some (.pointer (some ⟨pb, 0, none⟩)) := hR6.c0; obtain ⟨hP6, hW6⟩ := (by first | exact hW5.twoC hP5 hM6 | exact (hW5.drewN _).twoC (hP5.drewN _) hM6 : PCh F5 w6 cb (C.pay t.o t.t t.n) (g + 2000) ∧ Sides w0.heap.size w0 w6 F5 G); have L6 := hL.below hW6.below)
      | (go_at_call 14; refine (coded3_of (hE5.tells (by first | exact L6 | exact L6.drewN _))).mono ?_; rintro e w7 ⟨rfl, hB7⟩; have s71 : w7.cell? ⟨na, 1, none⟩ = some (.int .i64 t.o) := stk_old hB7 s61; have s72 : w7.cell? ⟨na, 2, none⟩ = some (.int .i64 t.t) := stk_old hB7 s62; have s74 : w7.cell? ⟨na, 4, none⟩ = some (.int .i64 t.n) := stk_old hB7 s64; have q70 : w7.cell? ⟨rb, 0, none⟩ = some (.pointer (some ⟨pb, 0, none⟩)) := stk_old hB7 q60))
  go_wp2_with fail
  go_ret
  exact ⟨rfl, F5, G, _, g + 2000, (Ch.Went.pay hC hf t.o t.t t.n).ok, (Ch.Went.pay hC hf t.o t.t t.n).fit, Nat.le_refl _, hP6.nextB hB7, (hR6.whole).nextB hB7, hW6.nextB hB7⟩
set_option maxRecDepth 100000 in
set_option maxHeartbeats 4000000 in
theorem cact_stake (w0 : World) (F G : Nat → Prop) (cb rb : Nat) (C : Ch) (hC : C.Ok) (i : Nat) (hi : i ≤ 400) (hf : C.Fit i) (g : Nat) (hg : g ≤ 850000) (t : CA) (wf : t.Wf) (A : Nat → Addr) (w : World) (hL : Laid w0 A) (hP : PCh F w cb C g) (hR : RCh G w rb C) (hW : Sides w0.heap.size w0 w F G) (t0 : (t.K.toList == [112, 97, 121]) = false) (ty : (t.K.toList == [115, 116, 97, 107, 101]) = true) :
    Calls Tryz.prog 28 #[.pointer (some ⟨cb, 0, none⟩), .pointer (some ⟨rb, 0, none⟩), .agg #[.string t.K, .int .i64 t.o, .int .i64 t.t, .int .i64 t.b, .int .i64 t.n, .int .i64 t.r, .int .i64 t.eb, .int .i64 t.ey, .int .i64 t.em]] w fun e w' => e = .returned (.bool true) ∧ BothC w0.heap.size w0 w' cb rb (g + 2000) (i + 1) := by
  have s0 : (w.alloc (.cells #[.string t.K, .int .i64 t.o, .int .i64 t.t, .int .i64 t.b, .int .i64 t.n, .int .i64 t.r, .int .i64 t.eb, .int .i64 t.ey, .int .i64 t.em] 44)).cell? ⟨w.heap.size, 0, none⟩ = some (.string t.K) := by simp
  have s1 : (w.alloc (.cells #[.string t.K, .int .i64 t.o, .int .i64 t.t, .int .i64 t.b, .int .i64 t.n, .int .i64 t.r, .int .i64 t.eb, .int .i64 t.ey, .int .i64 t.em] 44)).cell? ⟨w.heap.size, 1, none⟩ = some (.int .i64 t.o) := by simp
  have s3 : (w.alloc (.cells #[.string t.K, .int .i64 t.o, .int .i64 t.t, .int .i64 t.b, .int .i64 t.n, .int .i64 t.r, .int .i64 t.eb, .int .i64 t.ey, .int .i64 t.em] 44)).cell? ⟨w.heap.size, 3, none⟩ = some (.int .i64 t.b) := by simp
  have s4 : (w.alloc (.cells #[.string t.K, .int .i64 t.o, .int .i64 t.t, .int .i64 t.b, .int .i64 t.n, .int .i64 t.r, .int .i64 t.eb, .int .i64 t.ey, .int .i64 t.em] 44)).cell? ⟨w.heap.size, 4, none⟩ = some (.int .i64 t.n) := by simp
  have hB4 : Below w.heap.size w (w.alloc (.cells #[.string t.K, .int .i64 t.o, .int .i64 t.t, .int .i64 t.b, .int .i64 t.n, .int .i64 t.r, .int .i64 t.eb, .int .i64 t.ey, .int .i64 t.em] 44)) := (Below.refl _ _).alloc (Nat.le_refl _) _
  obtain ⟨pb, sb, kb, hR⟩ := hR.parts
  have hP4 := hP.nextB hB4
  have hR4 := hR.nextB hB4
  have hW4 := hW.nextB hB4
  have L4 := hL.below hW4.below
  have few := hf.few hi
  have zF : ¬ F w.heap.size := fun g => by have := hP.lt _ g; omega
  have zG : ¬ G w.heap.size := fun g => by have := hR.lt _ g; omega
  have zR : ¬ F rb := fun g => hW.apart rb g hR.own
  clear hP hR hW hB4
  go_enter Tryz.func28, Tryz.ntmps28
  go_wp2_with fail
  generalize w.heap.size = na at *
  generalize w.alloc (.cells #[.string t.K, .int .i64 t.o, .int .i64 t.t, .int .i64 t.b, .int .i64 t.n, .int .i64 t.r, .int .i64 t.eb, .int .i64 t.ey, .int .i64 t.em] 44) = w4 at *
  go_region_held3 (fun w' => w'.cell? ⟨na, 1, none⟩ = some (.int .i64 t.o) ∧ w'.cell? ⟨na, 3, none⟩ = some (.int .i64 t.b) ∧ w'.cell? ⟨na, 4, none⟩ = some (.int .i64 t.n)) (exact ⟨by assumption, by assumption, by assumption⟩)
    (first
      | (go_at_call 54; refine (pch_stake F cb C hC few g hg t.o t.b t.n wf.o A _ (by first | exact L4.ch.e | exact (L4.drewN _).ch.e) (by first | exact hP4 | exact hP4.drewN _)).mono ?_; rintro e w5 ⟨ev, F5, rfl, hE5, hP5, hM5⟩; have s51 : w5.cell? ⟨na, 1, none⟩ = some (.int .i64 t.o) := hM5.cell s1 zF; have s53 : w5.cell? ⟨na, 3, none⟩ = some (.int .i64 t.b) := hM5.cell s3 zF; have s54 : w5.cell? ⟨na, 4, none⟩ = some (.int .i64 t.n) := hM5.cell s4 zF; obtain ⟨hR5, hW5⟩ := (by first | exact hW4.oneC hR4 hM5 | exact (hW4.drewN _).oneC (hR4.drewN _) hM5 : RChB G w5 rb pb sb kb C ∧ Sides w0.heap.size w0 w5 F5 G))
      | (go_at_call 73; refine (rch_stake G rb C hC t.o t.b t.n _ (by first | exact hR5.whole | exact (hR5.drewN _).whole)).mono ?_; rintro e w6 ⟨rfl, G6, hR6, hM6⟩; have s61 : w6.cell? ⟨na, 1, none⟩ = some (.int .i64 t.o) := hM6.cell s51 zG; have s63 : w6.cell? ⟨na, 3, none⟩ = some (.int .i64 t.b) := hM6.cell s53 zG; have s64 : w6.cell? ⟨na, 4, none⟩ = some (.int .i64 t.n) := hM6.cell s54 zG; obtain ⟨hP6, hW6⟩ := (by first | exact hW5.twoC hP5 hM6 | exact (hW5.drewN _).twoC (hP5.drewN _) hM6 : PCh F5 w6 cb (C.stake t.o t.b t.n) (g + 2000) ∧ Sides w0.heap.size w0 w6 F5 G6); have L6 := hL.below hW6.below)
      | (go_at_call 14; refine (coded3_of (hE5.tells (by first | exact L6 | exact L6.drewN _))).mono ?_; rintro e w7 ⟨rfl, hB7⟩; have s71 : w7.cell? ⟨na, 1, none⟩ = some (.int .i64 t.o) := stk_old hB7 s61; have s73 : w7.cell? ⟨na, 3, none⟩ = some (.int .i64 t.b) := stk_old hB7 s63; have s74 : w7.cell? ⟨na, 4, none⟩ = some (.int .i64 t.n) := stk_old hB7 s64))
  go_wp2_with fail
  go_ret
  exact ⟨rfl, F5, G6, _, g + 2000, (Ch.Went.stake hC hf t.o t.b t.n).ok, (Ch.Went.stake hC hf t.o t.b t.n).fit, Nat.le_refl _, hP6.nextB hB7, (hR6).nextB hB7, hW6.nextB hB7⟩
set_option maxRecDepth 100000 in
set_option maxHeartbeats 4000000 in
theorem cact_unstake (w0 : World) (F G : Nat → Prop) (cb rb : Nat) (C : Ch) (hC : C.Ok) (i : Nat) (hi : i ≤ 400) (hf : C.Fit i) (g : Nat) (hg : g ≤ 850000) (t : CA) (wf : t.Wf) (A : Nat → Addr) (w : World) (hL : Laid w0 A) (hP : PCh F w cb C g) (hR : RCh G w rb C) (hW : Sides w0.heap.size w0 w F G) (t0 : (t.K.toList == [112, 97, 121]) = false) (t1 : (t.K.toList == [115, 116, 97, 107, 101]) = false) (ty : (t.K.toList == [117, 110, 115, 116, 97, 107, 101]) = true) :
    Calls Tryz.prog 28 #[.pointer (some ⟨cb, 0, none⟩), .pointer (some ⟨rb, 0, none⟩), .agg #[.string t.K, .int .i64 t.o, .int .i64 t.t, .int .i64 t.b, .int .i64 t.n, .int .i64 t.r, .int .i64 t.eb, .int .i64 t.ey, .int .i64 t.em]] w fun e w' => e = .returned (.bool true) ∧ BothC w0.heap.size w0 w' cb rb (g + 2000) (i + 1) := by
  have s0 : (w.alloc (.cells #[.string t.K, .int .i64 t.o, .int .i64 t.t, .int .i64 t.b, .int .i64 t.n, .int .i64 t.r, .int .i64 t.eb, .int .i64 t.ey, .int .i64 t.em] 44)).cell? ⟨w.heap.size, 0, none⟩ = some (.string t.K) := by simp
  have s1 : (w.alloc (.cells #[.string t.K, .int .i64 t.o, .int .i64 t.t, .int .i64 t.b, .int .i64 t.n, .int .i64 t.r, .int .i64 t.eb, .int .i64 t.ey, .int .i64 t.em] 44)).cell? ⟨w.heap.size, 1, none⟩ = some (.int .i64 t.o) := by simp
  have s3 : (w.alloc (.cells #[.string t.K, .int .i64 t.o, .int .i64 t.t, .int .i64 t.b, .int .i64 t.n, .int .i64 t.r, .int .i64 t.eb, .int .i64 t.ey, .int .i64 t.em] 44)).cell? ⟨w.heap.size, 3, none⟩ = some (.int .i64 t.b) := by simp
  have s4 : (w.alloc (.cells #[.string t.K, .int .i64 t.o, .int .i64 t.t, .int .i64 t.b, .int .i64 t.n, .int .i64 t.r, .int .i64 t.eb, .int .i64 t.ey, .int .i64 t.em] 44)).cell? ⟨w.heap.size, 4, none⟩ = some (.int .i64 t.n) := by simp
  have hB4 : Below w.heap.size w (w.alloc (.cells #[.string t.K, .int .i64 t.o, .int .i64 t.t, .int .i64 t.b, .int .i64 t.n, .int .i64 t.r, .int .i64 t.eb, .int .i64 t.ey, .int .i64 t.em] 44)) := (Below.refl _ _).alloc (Nat.le_refl _) _
  obtain ⟨pb, sb, kb, hR⟩ := hR.parts
  have hP4 := hP.nextB hB4
  have hR4 := hR.nextB hB4
  have hW4 := hW.nextB hB4
  have L4 := hL.below hW4.below
  have few := hf.few hi
  have zF : ¬ F w.heap.size := fun g => by have := hP.lt _ g; omega
  have zG : ¬ G w.heap.size := fun g => by have := hR.lt _ g; omega
  have zR : ¬ F rb := fun g => hW.apart rb g hR.own
  clear hP hR hW hB4
  go_enter Tryz.func28, Tryz.ntmps28
  go_wp2_with fail
  generalize w.heap.size = na at *
  generalize w.alloc (.cells #[.string t.K, .int .i64 t.o, .int .i64 t.t, .int .i64 t.b, .int .i64 t.n, .int .i64 t.r, .int .i64 t.eb, .int .i64 t.ey, .int .i64 t.em] 44) = w4 at *
  have q1 : w4.cell? ⟨rb, 1, none⟩ = some (.pointer (some ⟨sb, 0, none⟩)) := hR4.c1
  have q4 : w4.cell? ⟨rb, 4, none⟩ = some (.int .i64 C.cyc) := hR4.c4
  go_region_held3 (fun w' => w'.cell? ⟨na, 1, none⟩ = some (.int .i64 t.o) ∧ w'.cell? ⟨na, 3, none⟩ = some (.int .i64 t.b) ∧ w'.cell? ⟨na, 4, none⟩ = some (.int .i64 t.n) ∧ w'.cell? ⟨rb, 1, none⟩ = some (.pointer (some ⟨sb, 0, none⟩)) ∧ w'.cell? ⟨rb, 4, none⟩ = some (.int .i64 C.cyc)) (exact ⟨by assumption, by assumption, by assumption, by assumption, by assumption⟩)
    (first
      | (go_at_call 55; refine (pch_unstake F cb C hC few g hg t.o t.b t.n wf.o A _ (by first | exact L4.ch.e | exact (L4.drewN _).ch.e) (by first | exact hP4 | exact hP4.drewN _)).mono ?_; rintro e w5 ⟨ev, F5, rfl, hE5, hP5, hM5⟩; have s51 : w5.cell? ⟨na, 1, none⟩ = some (.int .i64 t.o) := hM5.cell s1 zF; have s53 : w5.cell? ⟨na, 3, none⟩ = some (.int .i64 t.b) := hM5.cell s3 zF; have s54 : w5.cell? ⟨na, 4, none⟩ = some (.int .i64 t.n) := hM5.cell s4 zF; have q51 : w5.cell? ⟨rb, 1, none⟩ = some (.pointer (some ⟨sb, 0, none⟩)) := hM5.cell q1 zR; have q54 : w5.cell? ⟨rb, 4, none⟩ = some (.int .i64 C.cyc) := hM5.cell q4 zR; obtain ⟨hR5, hW5⟩ := (by first | exact hW4.oneC hR4 hM5 | exact (hW4.drewN _).oneC (hR4.drewN _) hM5 : RChB G w5 rb pb sb kb C ∧ Sides w0.heap.size w0 w5 F5 G))
      | (go_at_call 74; refine (rchb_leave G rb pb sb kb C hC (by have := hf.k; omega) t.o t.b t.n _ (by first | exact hR5 | exact hR5.drewN _)).mono ?_; rintro e w6 ⟨rfl, G6, hR6, hM6⟩; have s61 : w6.cell? ⟨na, 1, none⟩ = some (.int .i64 t.o) := hM6.cell s51 zG; have s63 : w6.cell? ⟨na, 3, none⟩ = some (.int .i64 t.b) := hM6.cell s53 zG; have s64 : w6.cell? ⟨na, 4, none⟩ = some (.int .i64 t.n) := hM6.cell s54 zG; have q61 : w6.cell? ⟨rb, 1, none⟩ = some (.pointer (some ⟨sb, 0, none⟩)) := hR6.c1; have q64 : w6.cell? ⟨rb, 4, none⟩ = some (.int .i64 C.cyc) := hR6.c4; obtain ⟨hP6, hW6⟩ := (by first | exact hW5.twoC hP5 hM6 | exact (hW5.drewN _).twoC (hP5.drewN _) hM6 : PCh F5 w6 cb (C.unstake t.o t.b t.n) (g + 2000) ∧ Sides w0.heap.size w0 w6 F5 G6); have L6 := hL.below hW6.below)
      | (go_at_call 14; refine (coded3_of (hE5.tells (by first | exact L6 | exact L6.drewN _))).mono ?_; rintro e w7 ⟨rfl, hB7⟩; have s71 : w7.cell? ⟨na, 1, none⟩ = some (.int .i64 t.o) := stk_old hB7 s61; have s73 : w7.cell? ⟨na, 3, none⟩ = some (.int .i64 t.b) := stk_old hB7 s63; have s74 : w7.cell? ⟨na, 4, none⟩ = some (.int .i64 t.n) := stk_old hB7 s64; have q71 : w7.cell? ⟨rb, 1, none⟩ = some (.pointer (some ⟨sb, 0, none⟩)) := stk_old hB7 q61; have q74 : w7.cell? ⟨rb, 4, none⟩ = some (.int .i64 C.cyc) := stk_old hB7 q64))
  go_wp2_with fail
  go_ret
  exact ⟨rfl, F5, G6, _, g + 2000, (Ch.Went.unstake hC hf t.o t.b t.n).ok, (Ch.Went.unstake hC hf t.o t.b t.n).fit, Nat.le_refl _, hP6.nextB hB7, (hR6.whole).nextB hB7, hW6.nextB hB7⟩
set_option maxRecDepth 100000 in
set_option maxHeartbeats 4000000 in
theorem cact_accuse (w0 : World) (F G : Nat → Prop) (cb rb : Nat) (C : Ch) (hC : C.Ok) (i : Nat) (hi : i ≤ 400) (hf : C.Fit i) (g : Nat) (hg : g ≤ 850000) (t : CA) (wf : t.Wf) (A : Nat → Addr) (w : World) (hL : Laid w0 A) (hP : PCh F w cb C g) (hR : RCh G w rb C) (hW : Sides w0.heap.size w0 w F G) (t0 : (t.K.toList == [112, 97, 121]) = false) (t1 : (t.K.toList == [115, 116, 97, 107, 101]) = false) (t2 : (t.K.toList == [117, 110, 115, 116, 97, 107, 101]) = false) (t3 : (t.K.toList == [102, 114, 101, 101]) = false) (ty : (t.K.toList == [97, 99, 99, 117, 115, 101]) = true) :
    Calls Tryz.prog 28 #[.pointer (some ⟨cb, 0, none⟩), .pointer (some ⟨rb, 0, none⟩), .agg #[.string t.K, .int .i64 t.o, .int .i64 t.t, .int .i64 t.b, .int .i64 t.n, .int .i64 t.r, .int .i64 t.eb, .int .i64 t.ey, .int .i64 t.em]] w fun e w' => e = .returned (.bool true) ∧ BothC w0.heap.size w0 w' cb rb (g + 2000) (i + 1) := by
  have s0 : (w.alloc (.cells #[.string t.K, .int .i64 t.o, .int .i64 t.t, .int .i64 t.b, .int .i64 t.n, .int .i64 t.r, .int .i64 t.eb, .int .i64 t.ey, .int .i64 t.em] 44)).cell? ⟨w.heap.size, 0, none⟩ = some (.string t.K) := by simp
  have s1 : (w.alloc (.cells #[.string t.K, .int .i64 t.o, .int .i64 t.t, .int .i64 t.b, .int .i64 t.n, .int .i64 t.r, .int .i64 t.eb, .int .i64 t.ey, .int .i64 t.em] 44)).cell? ⟨w.heap.size, 1, none⟩ = some (.int .i64 t.o) := by simp
  have s6 : (w.alloc (.cells #[.string t.K, .int .i64 t.o, .int .i64 t.t, .int .i64 t.b, .int .i64 t.n, .int .i64 t.r, .int .i64 t.eb, .int .i64 t.ey, .int .i64 t.em] 44)).cell? ⟨w.heap.size, 6, none⟩ = some (.int .i64 t.eb) := by simp
  have s7 : (w.alloc (.cells #[.string t.K, .int .i64 t.o, .int .i64 t.t, .int .i64 t.b, .int .i64 t.n, .int .i64 t.r, .int .i64 t.eb, .int .i64 t.ey, .int .i64 t.em] 44)).cell? ⟨w.heap.size, 7, none⟩ = some (.int .i64 t.ey) := by simp
  have s8 : (w.alloc (.cells #[.string t.K, .int .i64 t.o, .int .i64 t.t, .int .i64 t.b, .int .i64 t.n, .int .i64 t.r, .int .i64 t.eb, .int .i64 t.ey, .int .i64 t.em] 44)).cell? ⟨w.heap.size, 8, none⟩ = some (.int .i64 t.em) := by simp
  have hB4 : Below w.heap.size w (w.alloc (.cells #[.string t.K, .int .i64 t.o, .int .i64 t.t, .int .i64 t.b, .int .i64 t.n, .int .i64 t.r, .int .i64 t.eb, .int .i64 t.ey, .int .i64 t.em] 44)) := (Below.refl _ _).alloc (Nat.le_refl _) _
  obtain ⟨pb, sb, kb, hR⟩ := hR.parts
  have hP4 := hP.nextB hB4
  have hR4 := hR.nextB hB4
  have hW4 := hW.nextB hB4
  have L4 := hL.below hW4.below
  have few := hf.few hi
  have zF : ¬ F w.heap.size := fun g => by have := hP.lt _ g; omega
  have zG : ¬ G w.heap.size := fun g => by have := hR.lt _ g; omega
  have zR : ¬ F rb := fun g => hW.apart rb g hR.own
  clear hP hR hW hB4
  go_enter Tryz.func28, Tryz.ntmps28
  go_wp2_with fail
  generalize w.heap.size = na at *
  generalize w.alloc (.cells #[.string t.K, .int .i64 t.o, .int .i64 t.t, .int .i64 t.b, .int .i64 t.n, .int .i64 t.r, .int .i64 t.eb, .int .i64 t.ey, .int .i64 t.em] 44) = w4 at *
  have q2 : w4.cell? ⟨rb, 2, none⟩ = some (.pointer (some ⟨kb, 0, none⟩)) := hR4.c2
  have q4 : w4.cell? ⟨rb, 4, none⟩ = some (.int .i64 C.cyc) := hR4.c4
  go_region_held3 (fun w' => w'.cell? ⟨na, 1, none⟩ = some (.int .i64 t.o) ∧ w'.cell? ⟨na, 6, none⟩ = some (.int .i64 t.eb) ∧ w'.cell? ⟨na, 7, none⟩ = some (.int .i64 t.ey) ∧ w'.cell? ⟨na, 8, none⟩ = some (.int .i64 t.em) ∧ w'.cell? ⟨rb, 2, none⟩ = some (.pointer (some ⟨kb, 0, none⟩)) ∧ w'.cell? ⟨rb, 4, none⟩ = some (.int .i64 C.cyc)) (exact ⟨by assumption, by assumption, by assumption, by assumption, by assumption, by assumption⟩)
    (first
      | (go_at_call 57; refine (pch_accuse F cb C hC few g hg t.o t.eb t.ey t.em wf.o wf.eb wf.ey wf.em A _ (by first | exact L4.ch | exact (L4.drewN _).ch) (by first | exact hP4 | exact hP4.drewN _)).mono ?_; rintro e w5 ⟨ev, F5, rfl, hE5, hP5, hM5⟩; have s51 : w5.cell? ⟨na, 1, none⟩ = some (.int .i64 t.o) := hM5.cell s1 zF; have s56 : w5.cell? ⟨na, 6, none⟩ = some (.int .i64 t.eb) := hM5.cell s6 zF; have s57 : w5.cell? ⟨na, 7, none⟩ = some (.int .i64 t.ey) := hM5.cell s7 zF; have s58 : w5.cell? ⟨na, 8, none⟩ = some (.int .i64 t.em) := hM5.cell s8 zF; have q52 : w5.cell? ⟨rb, 2, none⟩ = some (.pointer (some ⟨kb, 0, none⟩)) := hM5.cell q2 zR; have q54 : w5.cell? ⟨rb, 4, none⟩ = some (.int .i64 C.cyc) := hM5.cell q4 zR; obtain ⟨hR5, hW5⟩ := (by first | exact hW4.oneC hR4 hM5 | exact (hW4.drewN _).oneC (hR4.drewN _) hM5 : RChB G w5 rb pb sb kb C ∧ Sides w0.heap.size w0 w5 F5 G))
      | (go_at_call 76; refine (rchb_accuse G rb pb sb kb C hC (by have := hf.l; omega) t.o t.eb t.ey t.em _ (by first | exact hR5 | exact hR5.drewN _)).mono ?_; rintro e w6 ⟨rfl, G6, hR6, hM6⟩; have s61 : w6.cell? ⟨na, 1, none⟩ = some (.int .i64 t.o) := hM6.cell s51 zG; have s66 : w6.cell? ⟨na, 6, none⟩ = some (.int .i64 t.eb) := hM6.cell s56 zG; have s67 : w6.cell? ⟨na, 7, none⟩ = some (.int .i64 t.ey) := hM6.cell s57 zG; have s68 : w6.cell? ⟨na, 8, none⟩ = some (.int .i64 t.em) := hM6.cell s58 zG; have q62 : w6.cell? ⟨rb, 2, none⟩ = some (.pointer (some ⟨kb, 0, none⟩)) := hR6.c2; have q64 : w6.cell? ⟨rb, 4, none⟩ = some (.int .i64 C.cyc) := hR6.c4; obtain ⟨hP6, hW6⟩ := (by first | exact hW5.twoC hP5 hM6 | exact (hW5.drewN _).twoC (hP5.drewN _) hM6 : PCh F5 w6 cb (C.accuse t.o (t.eb, t.ey, t.em)) (g + 2000) ∧ Sides w0.heap.size w0 w6 F5 G6); have L6 := hL.below hW6.below)
      | (go_at_call 14; refine (coded3_of (hE5.tells (by first | exact L6 | exact L6.drewN _))).mono ?_; rintro e w7 ⟨rfl, hB7⟩; have s71 : w7.cell? ⟨na, 1, none⟩ = some (.int .i64 t.o) := stk_old hB7 s61; have s76 : w7.cell? ⟨na, 6, none⟩ = some (.int .i64 t.eb) := stk_old hB7 s66; have s77 : w7.cell? ⟨na, 7, none⟩ = some (.int .i64 t.ey) := stk_old hB7 s67; have s78 : w7.cell? ⟨na, 8, none⟩ = some (.int .i64 t.em) := stk_old hB7 s68; have q72 : w7.cell? ⟨rb, 2, none⟩ = some (.pointer (some ⟨kb, 0, none⟩)) := stk_old hB7 q62; have q74 : w7.cell? ⟨rb, 4, none⟩ = some (.int .i64 C.cyc) := stk_old hB7 q64))
  go_wp2_with fail
  go_ret
  exact ⟨rfl, F5, G6, _, g + 2000, (Ch.Went.accuse hC hf t.o (t.eb, t.ey, t.em)).ok, (Ch.Went.accuse hC hf t.o (t.eb, t.ey, t.em)).fit, Nat.le_refl _, hP6.nextB hB7, (hR6.whole).nextB hB7, hW6.nextB hB7⟩
set_option maxRecDepth 100000 in
set_option maxHeartbeats 4000000 in
theorem cact_free (w0 : World) (F G : Nat → Prop) (cb rb : Nat) (C : Ch) (hC : C.Ok) (i : Nat) (hi : i ≤ 400) (hf : C.Fit i) (g : Nat) (hg : g ≤ 850000) (t : CA) (wf : t.Wf) (A : Nat → Addr) (w : World) (hL : Laid w0 A) (hP : PCh F w cb C g) (hR : RCh G w rb C) (hW : Sides w0.heap.size w0 w F G) (t0 : (t.K.toList == [112, 97, 121]) = false) (t1 : (t.K.toList == [115, 116, 97, 107, 101]) = false) (t2 : (t.K.toList == [117, 110, 115, 116, 97, 107, 101]) = false) (ty : (t.K.toList == [102, 114, 101, 101]) = true) :
    Calls Tryz.prog 28 #[.pointer (some ⟨cb, 0, none⟩), .pointer (some ⟨rb, 0, none⟩), .agg #[.string t.K, .int .i64 t.o, .int .i64 t.t, .int .i64 t.b, .int .i64 t.n, .int .i64 t.r, .int .i64 t.eb, .int .i64 t.ey, .int .i64 t.em]] w fun e w' => e = .returned (.bool true) ∧ BothC w0.heap.size w0 w' cb rb (g + 2000) (i + 1) := by
  have s0 : (w.alloc (.cells #[.string t.K, .int .i64 t.o, .int .i64 t.t, .int .i64 t.b, .int .i64 t.n, .int .i64 t.r, .int .i64 t.eb, .int .i64 t.ey, .int .i64 t.em] 44)).cell? ⟨w.heap.size, 0, none⟩ = some (.string t.K) := by simp
  have s1 : (w.alloc (.cells #[.string t.K, .int .i64 t.o, .int .i64 t.t, .int .i64 t.b, .int .i64 t.n, .int .i64 t.r, .int .i64 t.eb, .int .i64 t.ey, .int .i64 t.em] 44)).cell? ⟨w.heap.size, 1, none⟩ = some (.int .i64 t.o) := by simp
  have hB4 : Below w.heap.size w (w.alloc (.cells #[.string t.K, .int .i64 t.o, .int .i64 t.t, .int .i64 t.b, .int .i64 t.n, .int .i64 t.r, .int .i64 t.eb, .int .i64 t.ey, .int .i64 t.em] 44)) := (Below.refl _ _).alloc (Nat.le_refl _) _
  obtain ⟨pb, sb, kb, hR⟩ := hR.parts
  have hP4 := hP.nextB hB4
  have hR4 := hR.nextB hB4
  have hW4 := hW.nextB hB4
  have L4 := hL.below hW4.below
  have few := hf.few hi
  have zF : ¬ F w.heap.size := fun g => by have := hP.lt _ g; omega
  have zG : ¬ G w.heap.size := fun g => by have := hR.lt _ g; omega
  have zR : ¬ F rb := fun g => hW.apart rb g hR.own
  clear hP hR hW hB4
  go_enter Tryz.func28, Tryz.ntmps28
  go_wp2_with fail
  generalize w.heap.size = na at *
  generalize w.alloc (.cells #[.string t.K, .int .i64 t.o, .int .i64 t.t, .int .i64 t.b, .int .i64 t.n, .int .i64 t.r, .int .i64 t.eb, .int .i64 t.ey, .int .i64 t.em] 44) = w4 at *
  refine (pch_free F cb C hC few g hg t.o wf.o A w4 L4.ch hP4).mono ?_
  rintro e w5 ⟨ev, F5, rfl, hE5, hP5, hM5⟩
  have s51 : w5.cell? ⟨na, 1, none⟩ = some (.int .i64 t.o) := hM5.cell s1 zF
  obtain ⟨hR5, hW5⟩ := hW4.oneC hR4 hM5
  go_wp2_with fail
  refine (rch_free G rb C hC (by have := hf.k; omega) (by have := hf.y; have := hf.v; omega) t.o w5 hR5.whole).mono ?_
  rintro e w6 ⟨rfl, G6, hR6, hM6⟩
  obtain ⟨hP6, hW6⟩ := hW5.twoC hP5 hM6
  have L6 := hL.below hW6.below
  have d1 : (C.s.freeN t.o C.cyc == C.s.freeN t.o C.cyc) = true := by simp
  go_wp2_with (go_at_call 14; refine (coded3_of (hE5.tells L6)).mono ?_; rintro e w7 ⟨rfl, hB7⟩)
  go_ret
  exact ⟨rfl, F5, G6, _, g + 2000, (Ch.Went.free hC hf t.o).ok, (Ch.Went.free hC hf t.o).fit, Nat.le_refl _, hP6.nextB hB7, hR6.nextB hB7, hW6.nextB hB7⟩
set_option maxRecDepth 100000 in
set_option maxHeartbeats 4000000 in
theorem cact_bake_bad (w0 : World) (F G : Nat → Prop) (cb rb : Nat) (C : Ch) (hC : C.Ok) (i : Nat) (hi : i ≤ 400) (hf : C.Fit i) (g : Nat) (_hg : g ≤ 850000) (t : CA) (_wf : t.Wf) (A : Nat → Addr) (w : World) (hL : Laid w0 A) (hP : PCh F w cb C g) (hR : RCh G w rb C) (hW : Sides w0.heap.size w0 w F G) (t0 : (t.K.toList == [112, 97, 121]) = false) (t1 : (t.K.toList == [115, 116, 97, 107, 101]) = false) (t2 : (t.K.toList == [117, 110, 115, 116, 97, 107, 101]) = false) (t3 : (t.K.toList == [102, 114, 101, 101]) = false) (t4 : (t.K.toList == [97, 99, 99, 117, 115, 101]) = false) (ty : (t.K.toList == [98, 97, 107, 101]) = true) (hr : ¬ TurnOk C.cyc C.lev t.r) :
    Calls Tryz.prog 28 #[.pointer (some ⟨cb, 0, none⟩), .pointer (some ⟨rb, 0, none⟩), .agg #[.string t.K, .int .i64 t.o, .int .i64 t.t, .int .i64 t.b, .int .i64 t.n, .int .i64 t.r, .int .i64 t.eb, .int .i64 t.ey, .int .i64 t.em]] w fun e w' => e = .returned (.bool true) ∧ BothC w0.heap.size w0 w' cb rb (g + 2000) (i + 1) := by
  have s0 : (w.alloc (.cells #[.string t.K, .int .i64 t.o, .int .i64 t.t, .int .i64 t.b, .int .i64 t.n, .int .i64 t.r, .int .i64 t.eb, .int .i64 t.ey, .int .i64 t.em] 44)).cell? ⟨w.heap.size, 0, none⟩ = some (.string t.K) := by simp
  have s3 : (w.alloc (.cells #[.string t.K, .int .i64 t.o, .int .i64 t.t, .int .i64 t.b, .int .i64 t.n, .int .i64 t.r, .int .i64 t.eb, .int .i64 t.ey, .int .i64 t.em] 44)).cell? ⟨w.heap.size, 3, none⟩ = some (.int .i64 t.b) := by simp
  have s5 : (w.alloc (.cells #[.string t.K, .int .i64 t.o, .int .i64 t.t, .int .i64 t.b, .int .i64 t.n, .int .i64 t.r, .int .i64 t.eb, .int .i64 t.ey, .int .i64 t.em] 44)).cell? ⟨w.heap.size, 5, none⟩ = some (.int .i64 t.r) := by simp
  have hB4 : Below w.heap.size w (w.alloc (.cells #[.string t.K, .int .i64 t.o, .int .i64 t.t, .int .i64 t.b, .int .i64 t.n, .int .i64 t.r, .int .i64 t.eb, .int .i64 t.ey, .int .i64 t.em] 44)) := (Below.refl _ _).alloc (Nat.le_refl _) _
  obtain ⟨pb, sb, kb, hR⟩ := hR.parts
  have hP4 := hP.nextB hB4
  have hR4 := hR.nextB hB4
  have hW4 := hW.nextB hB4
  have L4 := hL.below hW4.below
  have few := hf.few hi
  have zF : ¬ F w.heap.size := fun g => by have := hP.lt _ g; omega
  have zG : ¬ G w.heap.size := fun g => by have := hR.lt _ g; omega
  have zR : ¬ F rb := fun g => hW.apart rb g hR.own
  clear hP hR hW hB4
  go_enter Tryz.func28, Tryz.ntmps28
  go_wp2_with fail
  generalize w.heap.size = na at *
  generalize w.alloc (.cells #[.string t.K, .int .i64 t.o, .int .i64 t.t, .int .i64 t.b, .int .i64 t.n, .int .i64 t.r, .int .i64 t.eb, .int .i64 t.ey, .int .i64 t.em] 44) = w4 at *
  refine (pch_bake_bad F cb C hC few g t.b t.r hr A w4 L4.ch hP4).mono ?_
  rintro e w5 ⟨ev, F5, rfl, hE5, hP5, hM5⟩
  have s53 : w5.cell? ⟨na, 3, none⟩ = some (.int .i64 t.b) := hM5.cell s3 zF
  have s55 : w5.cell? ⟨na, 5, none⟩ = some (.int .i64 t.r) := hM5.cell s5 zF
  obtain ⟨hR5, hW5⟩ := hW4.oneC hR4 hM5
  go_wp2_with fail
  refine (rch_bake_bad G rb C hC t.b t.r hr w5 hR5.whole).mono ?_
  rintro e w6 ⟨rfl, hR6, hB6⟩
  have hP6 := hP5.nextB hB6
  have hW6 := hW5.nextB hB6
  have L6 := hL.below hW6.below
  have d1 : ((0 : Int) == (0 : Int)) = true := by simp
  go_wp2_with (go_at_call 14; refine (coded3_of (hE5.tells L6)).mono ?_; rintro e w7 ⟨rfl, hB7⟩)
  go_ret
  exact ⟨rfl, F5, G, _, g + 2000, (Ch.Went.same hC hf).ok, (Ch.Went.same hC hf).fit, Nat.le_refl _, hP6.nextB hB7, hR6.nextB hB7, hW6.nextB hB7⟩
set_option maxRecDepth 100000 in
set_option maxHeartbeats 4000000 in
theorem cact_bake_other (w0 : World) (F G : Nat → Prop) (cb rb : Nat) (C : Ch) (hC : C.Ok) (i : Nat) (hi : i ≤ 400) (hf : C.Fit i) (g : Nat) (_hg : g ≤ 850000) (t : CA) (_wf : t.Wf) (A : Nat → Addr) (w : World) (hL : Laid w0 A) (hP : PCh F w cb C g) (hR : RCh G w rb C) (hW : Sides w0.heap.size w0 w F G) (t0 : (t.K.toList == [112, 97, 121]) = false) (t1 : (t.K.toList == [115, 116, 97, 107, 101]) = false) (t2 : (t.K.toList == [117, 110, 115, 116, 97, 107, 101]) = false) (t3 : (t.K.toList == [102, 114, 101, 101]) = false) (t4 : (t.K.toList == [97, 99, 99, 117, 115, 101]) = false) (ty : (t.K.toList == [98, 97, 107, 101]) = true) (hr : TurnOk C.cyc C.lev t.r) (T : ∀ k, Turn 3 C.pic C.seed C.cyc C.lev t.r k → k ≠ t.b) :
    Calls Tryz.prog 28 #[.pointer (some ⟨cb, 0, none⟩), .pointer (some ⟨rb, 0, none⟩), .agg #[.string t.K, .int .i64 t.o, .int .i64 t.t, .int .i64 t.b, .int .i64 t.n, .int .i64 t.r, .int .i64 t.eb, .int .i64 t.ey, .int .i64 t.em]] w fun e w' => e = .returned (.bool true) ∧ BothC w0.heap.size w0 w' cb rb (g + 2000) (i + 1) := by
  have s0 : (w.alloc (.cells #[.string t.K, .int .i64 t.o, .int .i64 t.t, .int .i64 t.b, .int .i64 t.n, .int .i64 t.r, .int .i64 t.eb, .int .i64 t.ey, .int .i64 t.em] 44)).cell? ⟨w.heap.size, 0, none⟩ = some (.string t.K) := by simp
  have s3 : (w.alloc (.cells #[.string t.K, .int .i64 t.o, .int .i64 t.t, .int .i64 t.b, .int .i64 t.n, .int .i64 t.r, .int .i64 t.eb, .int .i64 t.ey, .int .i64 t.em] 44)).cell? ⟨w.heap.size, 3, none⟩ = some (.int .i64 t.b) := by simp
  have s5 : (w.alloc (.cells #[.string t.K, .int .i64 t.o, .int .i64 t.t, .int .i64 t.b, .int .i64 t.n, .int .i64 t.r, .int .i64 t.eb, .int .i64 t.ey, .int .i64 t.em] 44)).cell? ⟨w.heap.size, 5, none⟩ = some (.int .i64 t.r) := by simp
  have hB4 : Below w.heap.size w (w.alloc (.cells #[.string t.K, .int .i64 t.o, .int .i64 t.t, .int .i64 t.b, .int .i64 t.n, .int .i64 t.r, .int .i64 t.eb, .int .i64 t.ey, .int .i64 t.em] 44)) := (Below.refl _ _).alloc (Nat.le_refl _) _
  obtain ⟨pb, sb, kb, hR⟩ := hR.parts
  have hP4 := hP.nextB hB4
  have hR4 := hR.nextB hB4
  have hW4 := hW.nextB hB4
  have L4 := hL.below hW4.below
  have few := hf.few hi
  have zF : ¬ F w.heap.size := fun g => by have := hP.lt _ g; omega
  have zG : ¬ G w.heap.size := fun g => by have := hR.lt _ g; omega
  have zR : ¬ F rb := fun g => hW.apart rb g hR.own
  clear hP hR hW hB4
  go_enter Tryz.func28, Tryz.ntmps28
  go_wp2_with fail
  generalize w.heap.size = na at *
  generalize w.alloc (.cells #[.string t.K, .int .i64 t.o, .int .i64 t.t, .int .i64 t.b, .int .i64 t.n, .int .i64 t.r, .int .i64 t.eb, .int .i64 t.ey, .int .i64 t.em] 44) = w4 at *
  refine (pch_bake_other F cb C hC few g t.b t.r hr T A w4 L4.ch hP4).mono ?_
  rintro e w5 ⟨ev, F5, rfl, hE5, hP5, hM5⟩
  have s53 : w5.cell? ⟨na, 3, none⟩ = some (.int .i64 t.b) := hM5.cell s3 zF
  have s55 : w5.cell? ⟨na, 5, none⟩ = some (.int .i64 t.r) := hM5.cell s5 zF
  obtain ⟨hR5, hW5⟩ := hW4.oneC hR4 hM5
  go_wp2_with fail
  refine (rch_bake_other G rb C hC t.b t.r hr w5 hR5.whole T).mono ?_
  rintro e w6 ⟨rfl, hR6, hB6⟩
  have hP6 := hP5.nextB hB6
  have hW6 := hW5.nextB hB6
  have L6 := hL.below hW6.below
  have d1 : ((0 : Int) == (0 : Int)) = true := by simp
  go_wp2_with (go_at_call 14; refine (coded3_of (hE5.tells L6)).mono ?_; rintro e w7 ⟨rfl, hB7⟩)
  go_ret
  exact ⟨rfl, F5, G, _, g + 2000, (Ch.Went.same hC hf).ok, (Ch.Went.same hC hf).fit, Nat.le_refl _, hP6.nextB hB7, hR6.nextB hB7, hW6.nextB hB7⟩
set_option maxRecDepth 100000 in
set_option maxHeartbeats 4000000 in
theorem cact_bake_own (w0 : World) (F G : Nat → Prop) (cb rb : Nat) (C : Ch) (hC : C.Ok) (i : Nat) (hi : i ≤ 400) (hf : C.Fit i) (g : Nat) (hg : g ≤ 850000) (t : CA) (_wf : t.Wf) (A : Nat → Addr) (w : World) (hL : Laid w0 A) (hP : PCh F w cb C g) (hR : RCh G w rb C) (hW : Sides w0.heap.size w0 w F G) (t0 : (t.K.toList == [112, 97, 121]) = false) (t1 : (t.K.toList == [115, 116, 97, 107, 101]) = false) (t2 : (t.K.toList == [117, 110, 115, 116, 97, 107, 101]) = false) (t3 : (t.K.toList == [102, 114, 101, 101]) = false) (t4 : (t.K.toList == [97, 99, 99, 117, 115, 101]) = false) (ty : (t.K.toList == [98, 97, 107, 101]) = true) (hr : TurnOk C.cyc C.lev t.r) (T : ∀ k, Turn 3 C.pic C.seed C.cyc C.lev t.r k → k = t.b) :
    Calls Tryz.prog 28 #[.pointer (some ⟨cb, 0, none⟩), .pointer (some ⟨rb, 0, none⟩), .agg #[.string t.K, .int .i64 t.o, .int .i64 t.t, .int .i64 t.b, .int .i64 t.n, .int .i64 t.r, .int .i64 t.eb, .int .i64 t.ey, .int .i64 t.em]] w fun e w' => e = .returned (.bool true) ∧ BothC w0.heap.size w0 w' cb rb (g + 2000) (i + 1) := by
  have s0 : (w.alloc (.cells #[.string t.K, .int .i64 t.o, .int .i64 t.t, .int .i64 t.b, .int .i64 t.n, .int .i64 t.r, .int .i64 t.eb, .int .i64 t.ey, .int .i64 t.em] 44)).cell? ⟨w.heap.size, 0, none⟩ = some (.string t.K) := by simp
  have s3 : (w.alloc (.cells #[.string t.K, .int .i64 t.o, .int .i64 t.t, .int .i64 t.b, .int .i64 t.n, .int .i64 t.r, .int .i64 t.eb, .int .i64 t.ey, .int .i64 t.em] 44)).cell? ⟨w.heap.size, 3, none⟩ = some (.int .i64 t.b) := by simp
  have s5 : (w.alloc (.cells #[.string t.K, .int .i64 t.o, .int .i64 t.t, .int .i64 t.b, .int .i64 t.n, .int .i64 t.r, .int .i64 t.eb, .int .i64 t.ey, .int .i64 t.em] 44)).cell? ⟨w.heap.size, 5, none⟩ = some (.int .i64 t.r) := by simp
  have hB4 : Below w.heap.size w (w.alloc (.cells #[.string t.K, .int .i64 t.o, .int .i64 t.t, .int .i64 t.b, .int .i64 t.n, .int .i64 t.r, .int .i64 t.eb, .int .i64 t.ey, .int .i64 t.em] 44)) := (Below.refl _ _).alloc (Nat.le_refl _) _
  obtain ⟨pb, sb, kb, hR⟩ := hR.parts
  have hP4 := hP.nextB hB4
  have hR4 := hR.nextB hB4
  have hW4 := hW.nextB hB4
  have L4 := hL.below hW4.below
  have few := hf.few hi
  have zF : ¬ F w.heap.size := fun g => by have := hP.lt _ g; omega
  have zG : ¬ G w.heap.size := fun g => by have := hR.lt _ g; omega
  have zR : ¬ F rb := fun g => hW.apart rb g hR.own
  clear hP hR hW hB4
  go_enter Tryz.func28, Tryz.ntmps28
  go_wp2_with fail
  generalize w.heap.size = na at *
  generalize w.alloc (.cells #[.string t.K, .int .i64 t.o, .int .i64 t.t, .int .i64 t.b, .int .i64 t.n, .int .i64 t.r, .int .i64 t.eb, .int .i64 t.ey, .int .i64 t.em] 44) = w4 at *
  refine (pch_bake_own F cb C hC few g hg t.b t.r hr T A w4 L4.ch hP4).mono ?_
  rintro e w5 ⟨ev, F5, rfl, hE5, hP5, hM5⟩
  have s53 : w5.cell? ⟨na, 3, none⟩ = some (.int .i64 t.b) := hM5.cell s3 zF
  have s55 : w5.cell? ⟨na, 5, none⟩ = some (.int .i64 t.r) := hM5.cell s5 zF
  obtain ⟨hR5, hW5⟩ := hW4.oneC hR4 hM5
  go_wp2_with fail
  refine (rch_bake_fine G rb C hC i hi hf t.b t.r hr w5 hR5.whole T).mono ?_
  rintro e w6 ⟨rfl, G6, hR6, hM6⟩
  obtain ⟨hP6, hW6⟩ := hW5.twoC hP5 hM6
  have L6 := hL.below hW6.below
  have d1 : (C.bakeN t.b == C.bakeN t.b) = true := by simp
  go_wp2_with (go_at_call 14; refine (coded3_of (hE5.tells L6)).mono ?_; rintro e w7 ⟨rfl, hB7⟩)
  go_ret
  exact ⟨rfl, F5, G6, _, g + 2000, (Ch.Went.bake hC hf t.b).ok, (Ch.Went.bake hC hf t.b).fit, Nat.le_refl _, hP6.nextB hB7, hR6.nextB hB7, hW6.nextB hB7⟩
set_option maxRecDepth 100000 in
set_option maxHeartbeats 4000000 in
theorem cact_turn_no (w0 : World) (F G : Nat → Prop) (cb rb : Nat) (C : Ch) (hC : C.Ok) (i : Nat) (hi : i ≤ 400) (hf : C.Fit i) (g : Nat) (_hg : g ≤ 850000) (t : CA) (_wf : t.Wf) (A : Nat → Addr) (w : World) (hL : Laid w0 A) (hP : PCh F w cb C g) (hR : RCh G w rb C) (hW : Sides w0.heap.size w0 w F G) (t0 : (t.K.toList == [112, 97, 121]) = false) (t1 : (t.K.toList == [115, 116, 97, 107, 101]) = false) (t2 : (t.K.toList == [117, 110, 115, 116, 97, 107, 101]) = false) (t3 : (t.K.toList == [102, 114, 101, 101]) = false) (t4 : (t.K.toList == [97, 99, 99, 117, 115, 101]) = false) (t5 : (t.K.toList == [98, 97, 107, 101]) = false) (hr : ¬ TurnOk C.cyc C.lev t.r) :
    Calls Tryz.prog 28 #[.pointer (some ⟨cb, 0, none⟩), .pointer (some ⟨rb, 0, none⟩), .agg #[.string t.K, .int .i64 t.o, .int .i64 t.t, .int .i64 t.b, .int .i64 t.n, .int .i64 t.r, .int .i64 t.eb, .int .i64 t.ey, .int .i64 t.em]] w fun e w' => e = .returned (.bool true) ∧ BothC w0.heap.size w0 w' cb rb (g + 2000) (i + 1) := by
  have s0 : (w.alloc (.cells #[.string t.K, .int .i64 t.o, .int .i64 t.t, .int .i64 t.b, .int .i64 t.n, .int .i64 t.r, .int .i64 t.eb, .int .i64 t.ey, .int .i64 t.em] 44)).cell? ⟨w.heap.size, 0, none⟩ = some (.string t.K) := by simp
  have s5 : (w.alloc (.cells #[.string t.K, .int .i64 t.o, .int .i64 t.t, .int .i64 t.b, .int .i64 t.n, .int .i64 t.r, .int .i64 t.eb, .int .i64 t.ey, .int .i64 t.em] 44)).cell? ⟨w.heap.size, 5, none⟩ = some (.int .i64 t.r) := by simp
  have hB4 : Below w.heap.size w (w.alloc (.cells #[.string t.K, .int .i64 t.o, .int .i64 t.t, .int .i64 t.b, .int .i64 t.n, .int .i64 t.r, .int .i64 t.eb, .int .i64 t.ey, .int .i64 t.em] 44)) := (Below.refl _ _).alloc (Nat.le_refl _) _
  obtain ⟨pb, sb, kb, hR⟩ := hR.parts
  have hP4 := hP.nextB hB4
  have hR4 := hR.nextB hB4
  have hW4 := hW.nextB hB4
  have L4 := hL.below hW4.below
  have few := hf.few hi
  have zF : ¬ F w.heap.size := fun g => by have := hP.lt _ g; omega
  have zG : ¬ G w.heap.size := fun g => by have := hR.lt _ g; omega
  have zR : ¬ F rb := fun g => hW.apart rb g hR.own
  clear hP hR hW hB4
  go_enter Tryz.func28, Tryz.ntmps28
  go_wp2_with fail
  generalize w.heap.size = na at *
  generalize w.alloc (.cells #[.string t.K, .int .i64 t.o, .int .i64 t.t, .int .i64 t.b, .int .i64 t.n, .int .i64 t.r, .int .i64 t.eb, .int .i64 t.ey, .int .i64 t.em] 44) = w4 at *
  refine (pch_turn_bad F cb C hC few g t.r hr A w4 L4.ch hP4).mono ?_
  rintro e w5 ⟨ev, rfl, hE5, hB5⟩
  have hP5 := hP4.nextB hB5
  have hR5 := hR4.nextB hB5
  have hW5 := hW4.nextB hB5
  have s55 := stk_old hB5 s5
  clear hP4 hR4 hW4 hB5 s0 s5 zF zG zR
  go_wp2_with fail
  refine (rch_turn_bad G rb C hC t.r hr w5 hR5.whole).mono ?_
  rintro e w6 ⟨rfl, hB6⟩
  have hP6 := hP5.nextB hB6
  have hR6 := hR5.nextB hB6
  have hW6 := hW5.nextB hB6
  have s65 := stk_old hB6 s55
  clear hP5 hR5 hW5 hB6 s55
  go_wp2_with fail
  have hB7 : Below w6.heap.size w6 (w6.alloc (.cells #[.int .i64 2, .int .i64 (-1)] 114)) := (Below.refl _ _).alloc (Nat.le_refl _) _
  have hP7 := hP6.nextB hB7
  have hR7 := hR6.nextB hB7
  have hW7 := hW6.nextB hB7
  have f7 : (w6.alloc (.cells #[.int .i64 2, .int .i64 (-1)] 114)).cell? ⟨w6.heap.size, 0, none⟩ = some (.int .i64 2) := by simp
  have L7 := hL.below hW7.below
  clear hP6 hR6 hW6 hB7 s65
  generalize w6.alloc (.cells #[.int .i64 2, .int .i64 (-1)] 114) = w7 at *
  generalize w6.heap.size = nf at *
  refine (faulted3_of (hE5.tells L7)).mono ?_
  rintro e w8 ⟨rfl, hB8⟩
  have f8 := stk_old hB8 f7
  go_wp2_with fail
  go_ret
  exact ⟨rfl, F, G, C, g, hC, hf.more (Nat.le_succ _), Nat.le_add_right _ _, hP7.nextB hB8, (hR7.nextB hB8).whole, hW7.nextB hB8⟩
set_option maxRecDepth 100000 in
set_option maxHeartbeats 4000000 in
theorem cact_turn_yes (w0 : World) (F G : Nat → Prop) (cb rb : Nat) (C : Ch) (hC : C.Ok) (i : Nat) (hi : i ≤ 400) (hf : C.Fit i) (g : Nat) (hg : g ≤ 850000) (t : CA) (_wf : t.Wf) (A : Nat → Addr) (w : World) (hL : Laid w0 A) (hP : PCh F w cb C g) (hR : RCh G w rb C) (hW : Sides w0.heap.size w0 w F G) (t0 : (t.K.toList == [112, 97, 121]) = false) (t1 : (t.K.toList == [115, 116, 97, 107, 101]) = false) (t2 : (t.K.toList == [117, 110, 115, 116, 97, 107, 101]) = false) (t3 : (t.K.toList == [102, 114, 101, 101]) = false) (t4 : (t.K.toList == [97, 99, 99, 117, 115, 101]) = false) (t5 : (t.K.toList == [98, 97, 107, 101]) = false) (hr : TurnOk C.cyc C.lev t.r) :
    Calls Tryz.prog 28 #[.pointer (some ⟨cb, 0, none⟩), .pointer (some ⟨rb, 0, none⟩), .agg #[.string t.K, .int .i64 t.o, .int .i64 t.t, .int .i64 t.b, .int .i64 t.n, .int .i64 t.r, .int .i64 t.eb, .int .i64 t.ey, .int .i64 t.em]] w fun e w' => e = .returned (.bool true) ∧ BothC w0.heap.size w0 w' cb rb (g + 2000) (i + 1) := by
  have s0 : (w.alloc (.cells #[.string t.K, .int .i64 t.o, .int .i64 t.t, .int .i64 t.b, .int .i64 t.n, .int .i64 t.r, .int .i64 t.eb, .int .i64 t.ey, .int .i64 t.em] 44)).cell? ⟨w.heap.size, 0, none⟩ = some (.string t.K) := by simp
  have s5 : (w.alloc (.cells #[.string t.K, .int .i64 t.o, .int .i64 t.t, .int .i64 t.b, .int .i64 t.n, .int .i64 t.r, .int .i64 t.eb, .int .i64 t.ey, .int .i64 t.em] 44)).cell? ⟨w.heap.size, 5, none⟩ = some (.int .i64 t.r) := by simp
  have hB4 : Below w.heap.size w (w.alloc (.cells #[.string t.K, .int .i64 t.o, .int .i64 t.t, .int .i64 t.b, .int .i64 t.n, .int .i64 t.r, .int .i64 t.eb, .int .i64 t.ey, .int .i64 t.em] 44)) := (Below.refl _ _).alloc (Nat.le_refl _) _
  obtain ⟨pb, sb, kb, hR⟩ := hR.parts
  have hP4 := hP.nextB hB4
  have hR4 := hR.nextB hB4
  have hW4 := hW.nextB hB4
  have L4 := hL.below hW4.below
  have few := hf.few hi
  have zF : ¬ F w.heap.size := fun g => by have := hP.lt _ g; omega
  have zG : ¬ G w.heap.size := fun g => by have := hR.lt _ g; omega
  have zR : ¬ F rb := fun g => hW.apart rb g hR.own
  clear hP hR hW hB4
  go_enter Tryz.func28, Tryz.ntmps28
  go_wp2_with fail
  generalize w.heap.size = na at *
  generalize w.alloc (.cells #[.string t.K, .int .i64 t.o, .int .i64 t.t, .int .i64 t.b, .int .i64 t.n, .int .i64 t.r, .int .i64 t.eb, .int .i64 t.ey, .int .i64 t.em] 44) = w4 at *
  refine (pch_turn F cb C hC few g t.r hr A w4 L4.ch hP4).mono ?_
  rintro e w5 ⟨k, rfl, hk, hB5⟩
  have hP5 := hP4.nextB hB5
  have hR5 := hR4.nextB hB5
  have hW5 := hW4.nextB hB5
  have s55 := stk_old hB5 s5
  have lt5 := cell_lt s55
  clear hP4 hR4 hW4 hB5 s0 s5
  go_wp2_with fail
  refine (rch_turn G rb C hC t.r hr w5 hR5.whole).mono ?_
  rintro e w6 ⟨k2, rfl, hk2, hB6⟩
  obtain rfl : k = k2 := hk.one hk2
  have T := fun k' (h' : Turn 3 C.pic C.seed C.cyc C.lev t.r k') => h'.one hk
  have HT := hide T
  have hP6 := hP5.nextB hB6
  have hR6 := hR5.nextB hB6
  have hW6 := hW5.nextB hB6
  have s65 := stk_old hB6 s55
  clear hP5 hR5 hW5 hB6 s55 hk hk2 T
  go_wp2_with fail
  have hB7 : Below w6.heap.size w6 (w6.alloc (.cells #[.int .i64 0, .int .i64 (-1)] 114)) := (Below.refl _ _).alloc (Nat.le_refl _) _
  have hP7 := hP6.nextB hB7
  have hR7 := hR6.nextB hB7
  have hW7 := hW6.nextB hB7
  have s75 := stk_old hB7 s65
  have f7 : (w6.alloc (.cells #[.int .i64 0, .int .i64 (-1)] 114)).cell? ⟨w6.heap.size, 0, none⟩ = some (.int .i64 0) := by simp
  clear hP6 hR6 hW6 hB7 s65
  generalize w6.alloc (.cells #[.int .i64 0, .int .i64 (-1)] 114) = w7 at *
  generalize w6.heap.size = nf at *
  refine (faulted3_of (tells_nil w7)).mono ?_
  rintro e w8 ⟨rfl, hB8⟩
  have hP8 := hP7.nextB hB8
  have hR8 := hR7.nextB hB8
  have hW8 := hW7.nextB hB8
  have s85 := stk_old hB8 s75
  have f8 := stk_old hB8 f7
  have d0 : (k != k) = false := by simp
  clear hP7 hR7 hW7 hB8 s75 f7
  go_wp2_with fail
  refine (pch_bake_own F cb C hC few g hg k t.r hr HT.out A w8 (hL.below hW8.below).ch hP8).mono ?_
  rintro e w9 ⟨ev, F9, rfl, hE9, hP9, hM9⟩
  have s95 : w9.cell? ⟨na, 5, none⟩ = some (.int .i64 t.r) := hM9.cell s85 zF
  obtain ⟨hR9, hW9⟩ := hW8.oneC hR8 hM9
  clear hP8 hR8 hW8 s85
  go_wp2_with fail
  refine (rch_bake_fine G rb C hC i hi hf k t.r hr w9 hR9.whole HT.out).mono ?_
  rintro e w10 ⟨rfl, G10, hR10, hM10⟩
  obtain ⟨hP10, hW10⟩ := hW9.twoC hP9 hM10
  have L10 := hL.below hW10.below
  have d1 : (C.bakeN k == C.bakeN k) = true := by simp
  go_wp2_with (go_at_call 14; refine (coded3_of (hE9.tells L10)).mono ?_; rintro e w11 ⟨rfl, hB11⟩)
  go_ret
  exact ⟨rfl, F9, G10, _, g + 2000, (Ch.Went.bake hC hf k).ok, (Ch.Went.bake hC hf k).fit, Nat.le_refl _, hP10.nextB hB11, hR10.nextB hB11, hW10.nextB hB11⟩
/-- one act, whatever it is -/
theorem cact_of (w0 : World) (F G : Nat → Prop) (cb rb : Nat) (C : Ch) (hC : C.Ok) (i : Nat) (hi : i ≤ 400) (hf : C.Fit i) (g : Nat) (hg : g ≤ 850000) (t : CA) (wf : t.Wf) (A : Nat → Addr) (w : World) (hL : Laid w0 A) (hP : PCh F w cb C g) (hR : RCh G w rb C) (hW : Sides w0.heap.size w0 w F G) :
    Calls Tryz.prog 28 #[.pointer (some ⟨cb, 0, none⟩), .pointer (some ⟨rb, 0, none⟩), .agg #[.string t.K, .int .i64 t.o, .int .i64 t.t, .int .i64 t.b, .int .i64 t.n, .int .i64 t.r, .int .i64 t.eb, .int .i64 t.ey, .int .i64 t.em]] w fun e w' => e = .returned (.bool true) ∧ BothC w0.heap.size w0 w' cb rb (g + 2000) (i + 1) := by
  cases t0 : (t.K.toList == [112, 97, 121]) with
  | true => exact cact_pay w0 F G cb rb C hC i hi hf g hg t wf A w hL hP hR hW t0
  | false =>
    cases t1 : (t.K.toList == [115, 116, 97, 107, 101]) with
    | true => exact cact_stake w0 F G cb rb C hC i hi hf g hg t wf A w hL hP hR hW t0 t1
    | false =>
      cases t2 : (t.K.toList == [117, 110, 115, 116, 97, 107, 101]) with
      | true => exact cact_unstake w0 F G cb rb C hC i hi hf g hg t wf A w hL hP hR hW t0 t1 t2
      | false =>
        cases t3 : (t.K.toList == [102, 114, 101, 101]) with
        | true => exact cact_free w0 F G cb rb C hC i hi hf g hg t wf A w hL hP hR hW t0 t1 t2 t3
        | false =>
          cases t4 : (t.K.toList == [97, 99, 99, 117, 115, 101]) with
          | true => exact cact_accuse w0 F G cb rb C hC i hi hf g hg t wf A w hL hP hR hW t0 t1 t2 t3 t4
          | false =>
            cases t5 : (t.K.toList == [98, 97, 107, 101]) with
            | true =>
              by_cases hr : TurnOk C.cyc C.lev t.r
              · by_cases hk : Turn 3 C.pic C.seed C.cyc C.lev t.r t.b
                · exact cact_bake_own w0 F G cb rb C hC i hi hf g hg t wf A w hL hP hR hW t0 t1 t2 t3 t4 t5 hr (fun k g => g.one hk)
                · exact cact_bake_other w0 F G cb rb C hC i hi hf g hg t wf A w hL hP hR hW t0 t1 t2 t3 t4 t5 hr (fun k g e => hk (e ▸ g))
              · exact cact_bake_bad w0 F G cb rb C hC i hi hf g hg t wf A w hL hP hR hW t0 t1 t2 t3 t4 t5 hr
            | false =>
              by_cases hr : TurnOk C.cyc C.lev t.r
              · exact cact_turn_yes w0 F G cb rb C hC i hi hf g hg t wf A w hL hP hR hW t0 t1 t2 t3 t4 t5 hr
              · exact cact_turn_no w0 F G cb rb C hC i hi hf g hg t wf A w hL hP hR hW t0 t1 t2 t3 t4 t5 hr
end Go.Proofs.YtaihcceobnfmhaaGreatDoor
