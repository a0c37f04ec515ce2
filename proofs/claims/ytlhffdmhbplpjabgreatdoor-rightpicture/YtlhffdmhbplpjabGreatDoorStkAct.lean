/-
  One act on the program's stakes and on the document's: both answer the same.
-/
import Derived.Test.YtlhffdmhbplpjabGreatDoorStkTwoX
import Derived.Deep.RegionHeld3
namespace Go.Proofs.YtlhffdmhbplpjabGreatDoor
open Go.RowKit

set_option maxRecDepth 100000 in
set_option maxHeartbeats 2000000 in
theorem act_register (w0 : World) (F G : Nat → Prop) (sb rb : Nat) (S : Sk) (hS : S.Ok) (g : Nat) (hg : g ≤ 900000) (_hl : S.K.length ≤ 900) (kd : ByteArray) (o b n c : Int) (_wo : (Lit.int .i64 o).wf = true) (_wc : (Lit.int .i64 c).wf = true) (A : Nat → Addr) (w : World) (hL : Laid w0 A) (hP : PSk F w sb S g) (hR : RSk G w rb S) (hW : Sides w0.heap.size w0 w F G) (ty : (kd.toList == [114, 101, 103, 105, 115, 116, 101, 114]) = true) :
    Calls Tryz.prog 8 #[.pointer (some ⟨sb, 0, none⟩), .pointer (some ⟨rb, 0, none⟩), .agg #[.string kd, .int .i64 o, .int .i64 b, .int .i64 n, .int .i64 c]] w fun e w' => e = .returned (.bool true) ∧ Both w0.heap.size w0 w' sb rb (g + 4) (S.K.length + 1) := by
  have s0 : (w.alloc (.cells #[.string kd, .int .i64 o, .int .i64 b, .int .i64 n, .int .i64 c] 30)).cell? ⟨w.heap.size, 0, none⟩ = some (.string kd) := by simp
  have s1 : (w.alloc (.cells #[.string kd, .int .i64 o, .int .i64 b, .int .i64 n, .int .i64 c] 30)).cell? ⟨w.heap.size, 1, none⟩ = some (.int .i64 o) := by simp
  have s2 : (w.alloc (.cells #[.string kd, .int .i64 o, .int .i64 b, .int .i64 n, .int .i64 c] 30)).cell? ⟨w.heap.size, 2, none⟩ = some (.int .i64 b) := by simp
  have s3 : (w.alloc (.cells #[.string kd, .int .i64 o, .int .i64 b, .int .i64 n, .int .i64 c] 30)).cell? ⟨w.heap.size, 3, none⟩ = some (.int .i64 n) := by simp
  have s4 : (w.alloc (.cells #[.string kd, .int .i64 o, .int .i64 b, .int .i64 n, .int .i64 c] 30)).cell? ⟨w.heap.size, 4, none⟩ = some (.int .i64 c) := by simp
  have hB4 : Below w.heap.size w (w.alloc (.cells #[.string kd, .int .i64 o, .int .i64 b, .int .i64 n, .int .i64 c] 30)) := (Below.refl _ _).alloc (Nat.le_refl _) _
  have hP4 := hP.nextB hB4
  have hR4 := hR.nextB hB4
  have hW4 := hW.nextB hB4
  have L4 := hL.below hW4.below
  have zF : ¬ F w.heap.size := fun g => by have := hP.lt _ g; omega
  have zG : ¬ G w.heap.size := fun g => by have := hR.lt _ g; omega
  clear hP hR hW hB4
  go_enter Tryz.func8, Tryz.ntmps8
  go_wp2_with fail
  generalize w.heap.size = na at *
  generalize w.alloc (.cells #[.string kd, .int .i64 o, .int .i64 b, .int .i64 n, .int .i64 c] 30) = w4 at *
  go_region_held3 (fun w' => w'.cell? ⟨na, 2, none⟩ = some (.int .i64 b)) (assumption)
    (first
      | (go_at_call 23; refine (ps_register F sb S hS g hg b A _ (by first | exact L4.stk | exact (L4.drewN _).stk) (by first | exact hP4 | exact hP4.drewN _)).mono ?_; rintro e w5 ⟨ev, F5, rfl, hE5, hP5, hM5⟩; have s52 : w5.cell? ⟨na, 2, none⟩ = some (.int .i64 b) := hM5.cell s2 zF; obtain ⟨hR5, hW5⟩ := (by first | exact hW4.first hR4 hM5 | exact (hW4.drewN _).first (hR4.drewN _) hM5 : RSk G w5 rb S ∧ Sides w0.heap.size w0 w5 F5 G))
      | (go_at_call 27; refine (rs_register G rb S hS b _ (by first | exact hR5 | exact hR5.drewN _)).mono ?_; rintro e w6 ⟨rfl, G6, hR6, hM6⟩; have s62 : w6.cell? ⟨na, 2, none⟩ = some (.int .i64 b) := hM6.cell s52 zG; obtain ⟨hP6, hW6⟩ := (by first | exact hW5.second hP5 hM6 | exact (hW5.drewN _).second (hP5.drewN _) hM6 : PSk F5 w6 sb (S.reg b) (g + 4) ∧ Sides w0.heap.size w0 w6 F5 G6); have L6 := hL.below hW6.below)
      | (go_at_call 26; refine (coded2_of (hE5.tells (by first | exact L6 | exact L6.drewN _))).mono ?_; rintro e w7 ⟨rfl, hB7⟩; have s72 : w7.cell? ⟨na, 2, none⟩ = some (.int .i64 b) := old_cell hB7 s62))
  go_wp2_with fail
  go_ret
  exact ⟨rfl, F5, G6, _, hS.reg b, reg_len S b, hP6.nextB hB7, hR6.nextB hB7, hW6.nextB hB7⟩
set_option maxRecDepth 100000 in
set_option maxHeartbeats 2000000 in
theorem act_join (w0 : World) (F G : Nat → Prop) (sb rb : Nat) (S : Sk) (hS : S.Ok) (g : Nat) (hg : g ≤ 900000) (_hl : S.K.length ≤ 900) (kd : ByteArray) (o b n c : Int) (wo : (Lit.int .i64 o).wf = true) (_wc : (Lit.int .i64 c).wf = true) (A : Nat → Addr) (w : World) (hL : Laid w0 A) (hP : PSk F w sb S g) (hR : RSk G w rb S) (hW : Sides w0.heap.size w0 w F G) (t0 : (kd.toList == [114, 101, 103, 105, 115, 116, 101, 114]) = false) (ty : (kd.toList == [106, 111, 105, 110]) = true) :
    Calls Tryz.prog 8 #[.pointer (some ⟨sb, 0, none⟩), .pointer (some ⟨rb, 0, none⟩), .agg #[.string kd, .int .i64 o, .int .i64 b, .int .i64 n, .int .i64 c]] w fun e w' => e = .returned (.bool true) ∧ Both w0.heap.size w0 w' sb rb (g + 4) (S.K.length + 1) := by
  have s0 : (w.alloc (.cells #[.string kd, .int .i64 o, .int .i64 b, .int .i64 n, .int .i64 c] 30)).cell? ⟨w.heap.size, 0, none⟩ = some (.string kd) := by simp
  have s1 : (w.alloc (.cells #[.string kd, .int .i64 o, .int .i64 b, .int .i64 n, .int .i64 c] 30)).cell? ⟨w.heap.size, 1, none⟩ = some (.int .i64 o) := by simp
  have s2 : (w.alloc (.cells #[.string kd, .int .i64 o, .int .i64 b, .int .i64 n, .int .i64 c] 30)).cell? ⟨w.heap.size, 2, none⟩ = some (.int .i64 b) := by simp
  have s3 : (w.alloc (.cells #[.string kd, .int .i64 o, .int .i64 b, .int .i64 n, .int .i64 c] 30)).cell? ⟨w.heap.size, 3, none⟩ = some (.int .i64 n) := by simp
  have s4 : (w.alloc (.cells #[.string kd, .int .i64 o, .int .i64 b, .int .i64 n, .int .i64 c] 30)).cell? ⟨w.heap.size, 4, none⟩ = some (.int .i64 c) := by simp
  have hB4 : Below w.heap.size w (w.alloc (.cells #[.string kd, .int .i64 o, .int .i64 b, .int .i64 n, .int .i64 c] 30)) := (Below.refl _ _).alloc (Nat.le_refl _) _
  have hP4 := hP.nextB hB4
  have hR4 := hR.nextB hB4
  have hW4 := hW.nextB hB4
  have L4 := hL.below hW4.below
  have zF : ¬ F w.heap.size := fun g => by have := hP.lt _ g; omega
  have zG : ¬ G w.heap.size := fun g => by have := hR.lt _ g; omega
  clear hP hR hW hB4
  go_enter Tryz.func8, Tryz.ntmps8
  go_wp2_with fail
  generalize w.heap.size = na at *
  generalize w.alloc (.cells #[.string kd, .int .i64 o, .int .i64 b, .int .i64 n, .int .i64 c] 30) = w4 at *
  go_region_held3 (fun w' => w'.cell? ⟨na, 1, none⟩ = some (.int .i64 o) ∧ w'.cell? ⟨na, 2, none⟩ = some (.int .i64 b) ∧ w'.cell? ⟨na, 3, none⟩ = some (.int .i64 n)) (exact ⟨by assumption, by assumption, by assumption⟩)
    (first
      | (go_at_call 24; refine (ps_join F sb S hS g hg o b n wo A _ (by first | exact L4.stk | exact (L4.drewN _).stk) (by first | exact hP4 | exact hP4.drewN _)).mono ?_; rintro e w5 ⟨ev, F5, rfl, hE5, hP5, hM5⟩; have s51 : w5.cell? ⟨na, 1, none⟩ = some (.int .i64 o) := hM5.cell s1 zF; have s52 : w5.cell? ⟨na, 2, none⟩ = some (.int .i64 b) := hM5.cell s2 zF; have s53 : w5.cell? ⟨na, 3, none⟩ = some (.int .i64 n) := hM5.cell s3 zF; obtain ⟨hR5, hW5⟩ := (by first | exact hW4.first hR4 hM5 | exact (hW4.drewN _).first (hR4.drewN _) hM5 : RSk G w5 rb S ∧ Sides w0.heap.size w0 w5 F5 G))
      | (go_at_call 28; refine (rs_join G rb S hS o b n _ (by first | exact hR5 | exact hR5.drewN _)).mono ?_; rintro e w6 ⟨rfl, hR6, hM6⟩; have s61 : w6.cell? ⟨na, 1, none⟩ = some (.int .i64 o) := hM6.cell s51 zG; have s62 : w6.cell? ⟨na, 2, none⟩ = some (.int .i64 b) := hM6.cell s52 zG; have s63 : w6.cell? ⟨na, 3, none⟩ = some (.int .i64 n) := hM6.cell s53 zG; obtain ⟨hP6, hW6⟩ := (by first | exact hW5.second hP5 hM6 | exact (hW5.drewN _).second (hP5.drewN _) hM6 : PSk F5 w6 sb (S.join o b n) (g + 4) ∧ Sides w0.heap.size w0 w6 F5 G); have L6 := hL.below hW6.below)
      | (go_at_call 26; refine (coded2_of (hE5.tells (by first | exact L6 | exact L6.drewN _))).mono ?_; rintro e w7 ⟨rfl, hB7⟩; have s71 : w7.cell? ⟨na, 1, none⟩ = some (.int .i64 o) := old_cell hB7 s61; have s72 : w7.cell? ⟨na, 2, none⟩ = some (.int .i64 b) := old_cell hB7 s62; have s73 : w7.cell? ⟨na, 3, none⟩ = some (.int .i64 n) := old_cell hB7 s63))
  go_wp2_with fail
  go_ret
  exact ⟨rfl, F5, G, _, hS.join o b n, join_len S o b n, hP6.nextB hB7, hR6.nextB hB7, hW6.nextB hB7⟩
set_option maxRecDepth 100000 in
set_option maxHeartbeats 2000000 in
theorem act_leave (w0 : World) (F G : Nat → Prop) (sb rb : Nat) (S : Sk) (hS : S.Ok) (g : Nat) (hg : g ≤ 900000) (hl : S.K.length ≤ 900) (kd : ByteArray) (o b n c : Int) (wo : (Lit.int .i64 o).wf = true) (wc : (Lit.int .i64 c).wf = true) (A : Nat → Addr) (w : World) (hL : Laid w0 A) (hP : PSk F w sb S g) (hR : RSk G w rb S) (hW : Sides w0.heap.size w0 w F G) (t0 : (kd.toList == [114, 101, 103, 105, 115, 116, 101, 114]) = false) (t1 : (kd.toList == [106, 111, 105, 110]) = false) (ty : (kd.toList == [108, 101, 97, 118, 101]) = true) :
    Calls Tryz.prog 8 #[.pointer (some ⟨sb, 0, none⟩), .pointer (some ⟨rb, 0, none⟩), .agg #[.string kd, .int .i64 o, .int .i64 b, .int .i64 n, .int .i64 c]] w fun e w' => e = .returned (.bool true) ∧ Both w0.heap.size w0 w' sb rb (g + 4) (S.K.length + 1) := by
  have s0 : (w.alloc (.cells #[.string kd, .int .i64 o, .int .i64 b, .int .i64 n, .int .i64 c] 30)).cell? ⟨w.heap.size, 0, none⟩ = some (.string kd) := by simp
  have s1 : (w.alloc (.cells #[.string kd, .int .i64 o, .int .i64 b, .int .i64 n, .int .i64 c] 30)).cell? ⟨w.heap.size, 1, none⟩ = some (.int .i64 o) := by simp
  have s2 : (w.alloc (.cells #[.string kd, .int .i64 o, .int .i64 b, .int .i64 n, .int .i64 c] 30)).cell? ⟨w.heap.size, 2, none⟩ = some (.int .i64 b) := by simp
  have s3 : (w.alloc (.cells #[.string kd, .int .i64 o, .int .i64 b, .int .i64 n, .int .i64 c] 30)).cell? ⟨w.heap.size, 3, none⟩ = some (.int .i64 n) := by simp
  have s4 : (w.alloc (.cells #[.string kd, .int .i64 o, .int .i64 b, .int .i64 n, .int .i64 c] 30)).cell? ⟨w.heap.size, 4, none⟩ = some (.int .i64 c) := by simp
  have hB4 : Below w.heap.size w (w.alloc (.cells #[.string kd, .int .i64 o, .int .i64 b, .int .i64 n, .int .i64 c] 30)) := (Below.refl _ _).alloc (Nat.le_refl _) _
  have hP4 := hP.nextB hB4
  have hR4 := hR.nextB hB4
  have hW4 := hW.nextB hB4
  have L4 := hL.below hW4.below
  have zF : ¬ F w.heap.size := fun g => by have := hP.lt _ g; omega
  have zG : ¬ G w.heap.size := fun g => by have := hR.lt _ g; omega
  clear hP hR hW hB4
  go_enter Tryz.func8, Tryz.ntmps8
  go_wp2_with fail
  generalize w.heap.size = na at *
  generalize w.alloc (.cells #[.string kd, .int .i64 o, .int .i64 b, .int .i64 n, .int .i64 c] 30) = w4 at *
  go_region_held3 (fun w' => w'.cell? ⟨na, 1, none⟩ = some (.int .i64 o) ∧ w'.cell? ⟨na, 2, none⟩ = some (.int .i64 b) ∧ w'.cell? ⟨na, 3, none⟩ = some (.int .i64 n) ∧ w'.cell? ⟨na, 4, none⟩ = some (.int .i64 c)) (exact ⟨by assumption, by assumption, by assumption, by assumption⟩)
    (first
      | (go_at_call 25; refine (ps_leave F sb S hS g hg o b n c wo wc A _ (by first | exact L4.stk | exact (L4.drewN _).stk) (by first | exact hP4 | exact hP4.drewN _)).mono ?_; rintro e w5 ⟨ev, F5, rfl, hE5, hP5, hM5⟩; have s51 : w5.cell? ⟨na, 1, none⟩ = some (.int .i64 o) := hM5.cell s1 zF; have s52 : w5.cell? ⟨na, 2, none⟩ = some (.int .i64 b) := hM5.cell s2 zF; have s53 : w5.cell? ⟨na, 3, none⟩ = some (.int .i64 n) := hM5.cell s3 zF; have s54 : w5.cell? ⟨na, 4, none⟩ = some (.int .i64 c) := hM5.cell s4 zF; obtain ⟨hR5, hW5⟩ := (by first | exact hW4.first hR4 hM5 | exact (hW4.drewN _).first (hR4.drewN _) hM5 : RSk G w5 rb S ∧ Sides w0.heap.size w0 w5 F5 G))
      | (go_at_call 29; refine (rs_leave G rb S hS (by omega) o b n c _ (by first | exact hR5 | exact hR5.drewN _)).mono ?_; rintro e w6 ⟨rfl, G6, hR6, hM6⟩; have s61 : w6.cell? ⟨na, 1, none⟩ = some (.int .i64 o) := hM6.cell s51 zG; have s62 : w6.cell? ⟨na, 2, none⟩ = some (.int .i64 b) := hM6.cell s52 zG; have s63 : w6.cell? ⟨na, 3, none⟩ = some (.int .i64 n) := hM6.cell s53 zG; have s64 : w6.cell? ⟨na, 4, none⟩ = some (.int .i64 c) := hM6.cell s54 zG; obtain ⟨hP6, hW6⟩ := (by first | exact hW5.second hP5 hM6 | exact (hW5.drewN _).second (hP5.drewN _) hM6 : PSk F5 w6 sb (S.leave o b n c) (g + 4) ∧ Sides w0.heap.size w0 w6 F5 G6); have L6 := hL.below hW6.below)
      | (go_at_call 26; refine (coded2_of (hE5.tells (by first | exact L6 | exact L6.drewN _))).mono ?_; rintro e w7 ⟨rfl, hB7⟩; have s71 : w7.cell? ⟨na, 1, none⟩ = some (.int .i64 o) := old_cell hB7 s61; have s72 : w7.cell? ⟨na, 2, none⟩ = some (.int .i64 b) := old_cell hB7 s62; have s73 : w7.cell? ⟨na, 3, none⟩ = some (.int .i64 n) := old_cell hB7 s63; have s74 : w7.cell? ⟨na, 4, none⟩ = some (.int .i64 c) := old_cell hB7 s64))
  go_wp2_with fail
  go_ret
  exact ⟨rfl, F5, G6, _, hS.leave o b n c, leave_len S o b n c, hP6.nextB hB7, hR6.nextB hB7, hW6.nextB hB7⟩
set_option maxRecDepth 100000 in
set_option maxHeartbeats 2000000 in
theorem act_add (w0 : World) (F G : Nat → Prop) (sb rb : Nat) (S : Sk) (hS : S.Ok) (g : Nat) (hg : g ≤ 900000) (_hl : S.K.length ≤ 900) (kd : ByteArray) (o b n c : Int) (_wo : (Lit.int .i64 o).wf = true) (_wc : (Lit.int .i64 c).wf = true) (A : Nat → Addr) (w : World) (hL : Laid w0 A) (hP : PSk F w sb S g) (hR : RSk G w rb S) (hW : Sides w0.heap.size w0 w F G) (t0 : (kd.toList == [114, 101, 103, 105, 115, 116, 101, 114]) = false) (t1 : (kd.toList == [106, 111, 105, 110]) = false) (t2 : (kd.toList == [108, 101, 97, 118, 101]) = false) (t3 : (kd.toList == [102, 114, 101, 101]) = false) (ty : (kd.toList == [97, 100, 100]) = true) :
    Calls Tryz.prog 8 #[.pointer (some ⟨sb, 0, none⟩), .pointer (some ⟨rb, 0, none⟩), .agg #[.string kd, .int .i64 o, .int .i64 b, .int .i64 n, .int .i64 c]] w fun e w' => e = .returned (.bool true) ∧ Both w0.heap.size w0 w' sb rb (g + 4) (S.K.length + 1) := by
  have s0 : (w.alloc (.cells #[.string kd, .int .i64 o, .int .i64 b, .int .i64 n, .int .i64 c] 30)).cell? ⟨w.heap.size, 0, none⟩ = some (.string kd) := by simp
  have s1 : (w.alloc (.cells #[.string kd, .int .i64 o, .int .i64 b, .int .i64 n, .int .i64 c] 30)).cell? ⟨w.heap.size, 1, none⟩ = some (.int .i64 o) := by simp
  have s2 : (w.alloc (.cells #[.string kd, .int .i64 o, .int .i64 b, .int .i64 n, .int .i64 c] 30)).cell? ⟨w.heap.size, 2, none⟩ = some (.int .i64 b) := by simp
  have s3 : (w.alloc (.cells #[.string kd, .int .i64 o, .int .i64 b, .int .i64 n, .int .i64 c] 30)).cell? ⟨w.heap.size, 3, none⟩ = some (.int .i64 n) := by simp
  have s4 : (w.alloc (.cells #[.string kd, .int .i64 o, .int .i64 b, .int .i64 n, .int .i64 c] 30)).cell? ⟨w.heap.size, 4, none⟩ = some (.int .i64 c) := by simp
  have hB4 : Below w.heap.size w (w.alloc (.cells #[.string kd, .int .i64 o, .int .i64 b, .int .i64 n, .int .i64 c] 30)) := (Below.refl _ _).alloc (Nat.le_refl _) _
  have hP4 := hP.nextB hB4
  have hR4 := hR.nextB hB4
  have hW4 := hW.nextB hB4
  have L4 := hL.below hW4.below
  have zF : ¬ F w.heap.size := fun g => by have := hP.lt _ g; omega
  have zG : ¬ G w.heap.size := fun g => by have := hR.lt _ g; omega
  clear hP hR hW hB4
  go_enter Tryz.func8, Tryz.ntmps8
  go_wp2_with fail
  generalize w.heap.size = na at *
  generalize w.alloc (.cells #[.string kd, .int .i64 o, .int .i64 b, .int .i64 n, .int .i64 c] 30) = w4 at *
  go_region_held3 (fun w' => w'.cell? ⟨na, 2, none⟩ = some (.int .i64 b) ∧ w'.cell? ⟨na, 3, none⟩ = some (.int .i64 n)) (exact ⟨by assumption, by assumption⟩)
    (first
      | (go_at_call 32; refine (ps_add F sb S hS g hg b n A _ (by first | exact L4.stk | exact (L4.drewN _).stk) (by first | exact hP4 | exact hP4.drewN _)).mono ?_; rintro e w5 ⟨ev, F5, rfl, hE5, hP5, hM5⟩; have s52 : w5.cell? ⟨na, 2, none⟩ = some (.int .i64 b) := hM5.cell s2 zF; have s53 : w5.cell? ⟨na, 3, none⟩ = some (.int .i64 n) := hM5.cell s3 zF; obtain ⟨hR5, hW5⟩ := (by first | exact hW4.first hR4 hM5 | exact (hW4.drewN _).first (hR4.drewN _) hM5 : RSk G w5 rb S ∧ Sides w0.heap.size w0 w5 F5 G))
      | (go_at_call 33; refine (rs_add G rb S hS b n _ (by first | exact hR5 | exact hR5.drewN _)).mono ?_; rintro e w6 ⟨rfl, hR6, hM6⟩; have s62 : w6.cell? ⟨na, 2, none⟩ = some (.int .i64 b) := hM6.cell s52 zG; have s63 : w6.cell? ⟨na, 3, none⟩ = some (.int .i64 n) := hM6.cell s53 zG; obtain ⟨hP6, hW6⟩ := (by first | exact hW5.second hP5 hM6 | exact (hW5.drewN _).second (hP5.drewN _) hM6 : PSk F5 w6 sb (S.add b n) (g + 4) ∧ Sides w0.heap.size w0 w6 F5 G); have L6 := hL.below hW6.below)
      | (go_at_call 26; refine (coded2_of (hE5.tells (by first | exact L6 | exact L6.drewN _))).mono ?_; rintro e w7 ⟨rfl, hB7⟩; have s72 : w7.cell? ⟨na, 2, none⟩ = some (.int .i64 b) := old_cell hB7 s62; have s73 : w7.cell? ⟨na, 3, none⟩ = some (.int .i64 n) := old_cell hB7 s63))
  go_wp2_with fail
  go_ret
  exact ⟨rfl, F5, G, _, hS.add b n, add_len S b n, hP6.nextB hB7, hR6.nextB hB7, hW6.nextB hB7⟩
set_option maxRecDepth 100000 in
set_option maxHeartbeats 2000000 in
theorem act_free (w0 : World) (F G : Nat → Prop) (sb rb : Nat) (S : Sk) (hS : S.Ok) (g : Nat) (hg : g ≤ 900000) (hl : S.K.length ≤ 900) (kd : ByteArray) (o b n c : Int) (wo : (Lit.int .i64 o).wf = true) (wc : (Lit.int .i64 c).wf = true) (A : Nat → Addr) (w : World) (hL : Laid w0 A) (hP : PSk F w sb S g) (hR : RSk G w rb S) (hW : Sides w0.heap.size w0 w F G) (t0 : (kd.toList == [114, 101, 103, 105, 115, 116, 101, 114]) = false) (t1 : (kd.toList == [106, 111, 105, 110]) = false) (t2 : (kd.toList == [108, 101, 97, 118, 101]) = false) (ty : (kd.toList == [102, 114, 101, 101]) = true) :
    Calls Tryz.prog 8 #[.pointer (some ⟨sb, 0, none⟩), .pointer (some ⟨rb, 0, none⟩), .agg #[.string kd, .int .i64 o, .int .i64 b, .int .i64 n, .int .i64 c]] w fun e w' => e = .returned (.bool true) ∧ Both w0.heap.size w0 w' sb rb (g + 4) (S.K.length + 1) := by
  have s0 : (w.alloc (.cells #[.string kd, .int .i64 o, .int .i64 b, .int .i64 n, .int .i64 c] 30)).cell? ⟨w.heap.size, 0, none⟩ = some (.string kd) := by simp
  have s1 : (w.alloc (.cells #[.string kd, .int .i64 o, .int .i64 b, .int .i64 n, .int .i64 c] 30)).cell? ⟨w.heap.size, 1, none⟩ = some (.int .i64 o) := by simp
  have s2 : (w.alloc (.cells #[.string kd, .int .i64 o, .int .i64 b, .int .i64 n, .int .i64 c] 30)).cell? ⟨w.heap.size, 2, none⟩ = some (.int .i64 b) := by simp
  have s3 : (w.alloc (.cells #[.string kd, .int .i64 o, .int .i64 b, .int .i64 n, .int .i64 c] 30)).cell? ⟨w.heap.size, 3, none⟩ = some (.int .i64 n) := by simp
  have s4 : (w.alloc (.cells #[.string kd, .int .i64 o, .int .i64 b, .int .i64 n, .int .i64 c] 30)).cell? ⟨w.heap.size, 4, none⟩ = some (.int .i64 c) := by simp
  have hB4 : Below w.heap.size w (w.alloc (.cells #[.string kd, .int .i64 o, .int .i64 b, .int .i64 n, .int .i64 c] 30)) := (Below.refl _ _).alloc (Nat.le_refl _) _
  have hP4 := hP.nextB hB4
  have hR4 := hR.nextB hB4
  have hW4 := hW.nextB hB4
  have L4 := hL.below hW4.below
  have zF : ¬ F w.heap.size := fun g => by have := hP.lt _ g; omega
  have zG : ¬ G w.heap.size := fun g => by have := hR.lt _ g; omega
  clear hP hR hW hB4
  go_enter Tryz.func8, Tryz.ntmps8
  go_wp2_with fail
  generalize w.heap.size = na at *
  generalize w.alloc (.cells #[.string kd, .int .i64 o, .int .i64 b, .int .i64 n, .int .i64 c] 30) = w4 at *
  refine (ps_free F sb S hS (by omega) g hg o c wo wc A _ L4.stk hP4).mono ?_
  rintro e w5 ⟨ev, F5, rfl, hE5, hP5, hM5⟩
  have s51 : w5.cell? ⟨na, 1, none⟩ = some (.int .i64 o) := hM5.cell s1 zF
  have s54 : w5.cell? ⟨na, 4, none⟩ = some (.int .i64 c) := hM5.cell s4 zF
  obtain ⟨hR5, hW5⟩ := hW4.first hR4 hM5
  go_wp2_with fail
  refine (rs_free G rb S hS (by omega) o c wc _ hR5).mono ?_
  rintro e w6 ⟨rfl, hR6, hM6⟩
  obtain ⟨hP6, hW6⟩ := hW5.second hP5 hM6
  have L6 := hL.below hW6.below
  have d1 : (S.freeN o c == S.freeN o c) = true := by simp
  go_wp2_with (go_at_call 26; refine (coded2_of (hE5.tells L6)).mono ?_; rintro e w7 ⟨rfl, hB7⟩)
  go_ret
  exact ⟨rfl, F5, G, _, hS.free o c, free_len S o c, hP6.nextB hB7, hR6.nextB hB7, hW6.nextB hB7⟩
set_option maxRecDepth 100000 in
set_option maxHeartbeats 2000000 in
theorem act_slash (w0 : World) (F G : Nat → Prop) (sb rb : Nat) (S : Sk) (hS : S.Ok) (g : Nat) (hg : g ≤ 900000) (hl : S.K.length ≤ 900) (kd : ByteArray) (o b n c : Int) (_wo : (Lit.int .i64 o).wf = true) (wc : (Lit.int .i64 c).wf = true) (A : Nat → Addr) (w : World) (hL : Laid w0 A) (hP : PSk F w sb S g) (hR : RSk G w rb S) (hW : Sides w0.heap.size w0 w F G) (t0 : (kd.toList == [114, 101, 103, 105, 115, 116, 101, 114]) = false) (t1 : (kd.toList == [106, 111, 105, 110]) = false) (t2 : (kd.toList == [108, 101, 97, 118, 101]) = false) (t3 : (kd.toList == [102, 114, 101, 101]) = false) (t4 : (kd.toList == [97, 100, 100]) = false) :
    Calls Tryz.prog 8 #[.pointer (some ⟨sb, 0, none⟩), .pointer (some ⟨rb, 0, none⟩), .agg #[.string kd, .int .i64 o, .int .i64 b, .int .i64 n, .int .i64 c]] w fun e w' => e = .returned (.bool true) ∧ Both w0.heap.size w0 w' sb rb (g + 4) (S.K.length + 1) := by
  have s0 : (w.alloc (.cells #[.string kd, .int .i64 o, .int .i64 b, .int .i64 n, .int .i64 c] 30)).cell? ⟨w.heap.size, 0, none⟩ = some (.string kd) := by simp
  have s1 : (w.alloc (.cells #[.string kd, .int .i64 o, .int .i64 b, .int .i64 n, .int .i64 c] 30)).cell? ⟨w.heap.size, 1, none⟩ = some (.int .i64 o) := by simp
  have s2 : (w.alloc (.cells #[.string kd, .int .i64 o, .int .i64 b, .int .i64 n, .int .i64 c] 30)).cell? ⟨w.heap.size, 2, none⟩ = some (.int .i64 b) := by simp
  have s3 : (w.alloc (.cells #[.string kd, .int .i64 o, .int .i64 b, .int .i64 n, .int .i64 c] 30)).cell? ⟨w.heap.size, 3, none⟩ = some (.int .i64 n) := by simp
  have s4 : (w.alloc (.cells #[.string kd, .int .i64 o, .int .i64 b, .int .i64 n, .int .i64 c] 30)).cell? ⟨w.heap.size, 4, none⟩ = some (.int .i64 c) := by simp
  have hB4 : Below w.heap.size w (w.alloc (.cells #[.string kd, .int .i64 o, .int .i64 b, .int .i64 n, .int .i64 c] 30)) := (Below.refl _ _).alloc (Nat.le_refl _) _
  have hP4 := hP.nextB hB4
  have hR4 := hR.nextB hB4
  have hW4 := hW.nextB hB4
  have L4 := hL.below hW4.below
  have zF : ¬ F w.heap.size := fun g => by have := hP.lt _ g; omega
  have zG : ¬ G w.heap.size := fun g => by have := hR.lt _ g; omega
  clear hP hR hW hB4
  go_enter Tryz.func8, Tryz.ntmps8
  go_wp2_with fail
  generalize w.heap.size = na at *
  generalize w.alloc (.cells #[.string kd, .int .i64 o, .int .i64 b, .int .i64 n, .int .i64 c] 30) = w4 at *
  refine (ps_slash F sb S hS (by omega) g hg b c n wc A _ L4.stk hP4).mono ?_
  rintro e w5 ⟨ev, F5, rfl, hE5, hP5, hM5⟩
  have s52 : w5.cell? ⟨na, 2, none⟩ = some (.int .i64 b) := hM5.cell s2 zF
  have s53 : w5.cell? ⟨na, 3, none⟩ = some (.int .i64 n) := hM5.cell s3 zF
  have s54 : w5.cell? ⟨na, 4, none⟩ = some (.int .i64 c) := hM5.cell s4 zF
  obtain ⟨hR5, hW5⟩ := hW4.first hR4 hM5
  go_wp2_with fail
  refine (rs_slash G rb S hS (by omega) b c n _ hR5).mono ?_
  rintro e w6 ⟨rfl, hR6, hM6⟩
  obtain ⟨hP6, hW6⟩ := hW5.second hP5 hM6
  have L6 := hL.below hW6.below
  have d1 : (S.slashN b c n == S.slashN b c n) = true := by simp
  go_wp2_with (go_at_call 26; refine (coded2_of (hE5.tells L6)).mono ?_; rintro e w7 ⟨rfl, hB7⟩)
  go_ret
  exact ⟨rfl, F5, G, _, hS.slash b c n, slash_len S b c n, hP6.nextB hB7, hR6.nextB hB7, hW6.nextB hB7⟩
/-- one act, whatever it is -/
theorem act_of (w0 : World) (F G : Nat → Prop) (sb rb : Nat) (S : Sk) (hS : S.Ok) (g : Nat) (hg : g ≤ 900000) (hl : S.K.length ≤ 900) (kd : ByteArray) (o b n c : Int) (wo : (Lit.int .i64 o).wf = true) (wc : (Lit.int .i64 c).wf = true) (A : Nat → Addr) (w : World) (hL : Laid w0 A) (hP : PSk F w sb S g) (hR : RSk G w rb S) (hW : Sides w0.heap.size w0 w F G) :
    Calls Tryz.prog 8 #[.pointer (some ⟨sb, 0, none⟩), .pointer (some ⟨rb, 0, none⟩), .agg #[.string kd, .int .i64 o, .int .i64 b, .int .i64 n, .int .i64 c]] w fun e w' => e = .returned (.bool true) ∧ Both w0.heap.size w0 w' sb rb (g + 4) (S.K.length + 1) := by
  cases t0 : (kd.toList == [114, 101, 103, 105, 115, 116, 101, 114]) with
  | true => exact act_register w0 F G sb rb S hS g hg hl kd o b n c wo wc A w hL hP hR hW t0
  | false =>
    cases t1 : (kd.toList == [106, 111, 105, 110]) with
    | true => exact act_join w0 F G sb rb S hS g hg hl kd o b n c wo wc A w hL hP hR hW t0 t1
    | false =>
      cases t2 : (kd.toList == [108, 101, 97, 118, 101]) with
      | true => exact act_leave w0 F G sb rb S hS g hg hl kd o b n c wo wc A w hL hP hR hW t0 t1 t2
      | false =>
        cases t3 : (kd.toList == [102, 114, 101, 101]) with
        | true => exact act_free w0 F G sb rb S hS g hg hl kd o b n c wo wc A w hL hP hR hW t0 t1 t2 t3
        | false =>
          cases t4 : (kd.toList == [97, 100, 100]) with
          | true => exact act_add w0 F G sb rb S hS g hg hl kd o b n c wo wc A w hL hP hR hW t0 t1 t2 t3 t4
          | false => exact act_slash w0 F G sb rb S hS g hg hl kd o b n c wo wc A w hL hP hR hW t0 t1 t2 t3 t4
end Go.Proofs.YtlhffdmhbplpjabGreatDoor
