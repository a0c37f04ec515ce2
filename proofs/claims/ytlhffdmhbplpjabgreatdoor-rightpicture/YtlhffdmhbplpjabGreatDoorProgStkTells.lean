/-
  The program's stakes by their contracts: what they tell of one baker.
-/
import Derived.Test.YtlhffdmhbplpjabGreatDoorProgStkX
import Derived.Test.YtlhffdmhbplpjabGreatDoorProgBkFreeX
namespace Go.Proofs.YtlhffdmhbplpjabGreatDoor
open Go.RowKit

theorem baker_yes (b : Int) (h0 : 0 ≤ b) (h3 : b < 3) (w : World) :
    Calls Tryz.prog 45 #[.int .i64 b] w fun e w' => e = .returned (.bool true) ∧ w' = w := by
  go_enter Tryz.func45, Tryz.ntmps45
  go_wp2
  go_ret
  exact ⟨rfl, rfl⟩
theorem baker_no (b : Int) (h : ¬ Bk b) (w : World) :
    Calls Tryz.prog 45 #[.int .i64 b] w fun e w' => e = .returned (.bool false) ∧ w' = w := by
  by_cases h0 : 0 ≤ b
  · have h3 : ¬ b < 3 := by omega
    clear h
    go_enter Tryz.func45, Tryz.ntmps45
    go_wp2
    go_ret
    exact ⟨rfl, rfl⟩
  · clear h
    go_enter Tryz.func45, Tryz.ntmps45
    go_wp2
    go_ret
    exact ⟨rfl, rfl⟩
theorem cycle_yes (c : Int) (h0 : 0 ≤ c) (h1 : c ≤ 1048576) (w : World) :
    Calls Tryz.prog 48 #[.int .i64 c] w fun e w' => e = .returned (.bool true) ∧ w' = w := by
  go_enter Tryz.func48, Tryz.ntmps48
  go_wp2
  go_ret
  exact ⟨rfl, rfl⟩
theorem cycle_no (c : Int) (h : ¬ Cy c) (w : World) :
    Calls Tryz.prog 48 #[.int .i64 c] w fun e w' => e = .returned (.bool false) ∧ w' = w := by
  by_cases h0 : 0 ≤ c
  · have h3 : ¬ c ≤ 1048576 := by omega
    clear h
    go_enter Tryz.func48, Tryz.ntmps48
    go_wp2
    go_ret
    exact ⟨rfl, rfl⟩
  · clear h
    go_enter Tryz.func48, Tryz.ntmps48
    go_wp2
    go_ret
    exact ⟨rfl, rfl⟩

theorem find_yes (G : Int → Nat → Prop) (bb : Int → Nat) (sb : Nat) (S : Sk) (hS : S.Ok) (gb : Int → Nat) (b : Int) (hr : S.R b = true) (w : World) (h : PSkAt G bb w sb S gb) :
    Calls Tryz.prog 38 #[.pointer (some ⟨sb, 0, none⟩), .int .i64 b] w fun e w' => e = .returned (.pointer (some ⟨bb b, 0, none⟩)) ∧ w' = w := by
  obtain ⟨b0, b3⟩ := hS.rin b hr
  have I := baker_yes b b0 b3
  obtain ⟨k, rfl⟩ : ∃ k : Nat, b = k := ⟨b.toNat, by omega⟩
  have hk : k < 3 := by omega
  have hc := h.c k hk
  rw [hr] at hc
  simp only [if_true] at hc
  clear hr h b0 b3
  go_enter Tryz.func38, Tryz.ntmps38
  go_wp2_with (go_at_call 45; refine (I _).mono ?_; rintro e w' ⟨rfl, rfl⟩)
  go_ret
  exact ⟨rfl, rfl⟩
theorem find_no (G : Int → Nat → Prop) (bb : Int → Nat) (sb : Nat) (S : Sk) (gb : Int → Nat) (b : Int) (hr : S.R b = false) (w : World) (h : PSkAt G bb w sb S gb) :
    Calls Tryz.prog 38 #[.pointer (some ⟨sb, 0, none⟩), .int .i64 b] w fun e w' => e = .returned (.pointer none) ∧ w' = w := by
  by_cases hb : Bk b
  · obtain ⟨b0, b3⟩ := hb
    have I := baker_yes b b0 b3
    obtain ⟨k, rfl⟩ : ∃ k : Nat, b = k := ⟨b.toNat, by omega⟩
    have hk : k < 3 := by omega
    have hc := h.c k hk
    rw [hr] at hc
    simp only [Bool.false_eq_true, if_false] at hc
    clear hr h b0 b3
    go_enter Tryz.func38, Tryz.ntmps38
    go_wp2_with (go_at_call 45; refine (I _).mono ?_; rintro e w' ⟨rfl, rfl⟩)
    go_ret
    exact ⟨rfl, rfl⟩
  · have I := baker_no b hb
    clear hb h hr
    go_enter Tryz.func38, Tryz.ntmps38
    go_wp2_with (go_at_call 45; refine (I _).mono ?_; rintro e w' ⟨rfl, rfl⟩)
    go_ret
    exact ⟨rfl, rfl⟩
theorem is_at (G : Int → Nat → Prop) (bb : Int → Nat) (sb : Nat) (S : Sk) (hS : S.Ok) (gb : Int → Nat) (b : Int) (w : World) (h : PSkAt G bb w sb S gb) :
    Calls Tryz.prog 11 #[.pointer (some ⟨sb, 0, none⟩), .int .i64 b] w fun e w' => e = .returned (.bool (S.R b)) ∧ w' = w := by
  cases hr : S.R b with
  | true =>
    have C := find_yes G bb sb S hS _ b hr w h
    clear hr h
    go_enter Tryz.func11, Tryz.ntmps11
    go_wp2_with (go_at_call 38; refine C.mono ?_; rintro e w' ⟨rfl, rfl⟩)
    go_ret
    exact ⟨rfl, rfl⟩
  | false =>
    have C := find_no G bb sb S _ b hr w h
    clear hr h
    go_enter Tryz.func11, Tryz.ntmps11
    go_wp2_with (go_at_call 38; refine C.mono ?_; rintro e w' ⟨rfl, rfl⟩)
    go_ret
    exact ⟨rfl, rfl⟩
theorem ps_is (F : Nat → Prop) (sb : Nat) (S : Sk) (hS : S.Ok) (g : Nat) (b : Int) (w : World) (h : PSk F w sb S g) :
    Calls Tryz.prog 11 #[.pointer (some ⟨sb, 0, none⟩), .int .i64 b] w fun e w' => e = .returned (.bool (S.R b)) ∧ ∃ m, w' = w.drewN m := by
  obtain ⟨G, bb, hf, h⟩ := h
  exact (is_at G bb sb S hS _ b w h).mono fun e w' ⟨h1, h2⟩ => ⟨h1, 0, h2⟩
theorem ps_staked (F : Nat → Prop) (sb : Nat) (S : Sk) (hS : S.Ok) (g : Nat) (b : Int) (w : World) (h : PSk F w sb S g) :
    Calls Tryz.prog 13 #[.pointer (some ⟨sb, 0, none⟩), .int .i64 b] w fun e w' => e = .returned (.int .i64 (S.P b).T) ∧ ∃ m, w' = w.drewN m := by
  obtain ⟨G, bb, hf, h⟩ := h
  cases hr : S.R b with
  | true =>
    have C := find_yes G bb sb S hS _ b hr w h
    obtain ⟨tag, p, pm, wm, H, q, qm, _, hb, _⟩ := h.bk b hr
    have c0 := hb.c0
    have T := prog_total p pm _ _ w hb.pool
    clear hr h hb
    go_enter Tryz.func13, Tryz.ntmps13
    go_wp2_with (first | (go_at_call 38; refine C.mono ?_; rintro e w' ⟨rfl, rfl⟩) | (go_at_call 37; refine T.mono ?_; rintro e w' ⟨rfl, rfl⟩))
    go_ret
    exact ⟨rfl, 0, rfl⟩
  | false =>
    have C := find_no G bb sb S _ b hr w h
    have E : Hid ((S.P b).T = 0) := by rw [hS.pout b hr]; rfl
    clear hr h
    go_enter Tryz.func13, Tryz.ntmps13
    go_wp2_with (go_at_call 38; refine C.mono ?_; rintro e w' ⟨rfl, rfl⟩)
    go_ret
    exact ⟨ret_int E.out.symm, 0, rfl⟩
theorem ps_value (F : Nat → Prop) (sb : Nat) (S : Sk) (hS : S.Ok) (g : Nat) (o b : Int) (wo : (Lit.int .i64 o).wf = true) (w : World) (h : PSk F w sb S g) :
    Calls Tryz.prog 15 #[.pointer (some ⟨sb, 0, none⟩), .int .i64 o, .int .i64 b] w fun e w' => e = .returned (.int .i64 ((S.P b).val o)) ∧ ∃ m, w' = w.drewN m := by
  obtain ⟨G, bb, hf, h⟩ := h
  cases hr : S.R b with
  | true =>
    have C := find_yes G bb sb S hS _ b hr w h
    obtain ⟨tag, p, pm, wm, H, q, qm, _, hb, _⟩ := h.bk b hr
    have c0 := hb.c0
    have T := prog_value p pm _ _ (hS.pok b) o wo w hb.pool
    clear hr h hb
    go_enter Tryz.func15, Tryz.ntmps15
    go_wp2_with (first | (go_at_call 38; refine C.mono ?_; rintro e w' ⟨rfl, rfl⟩) | (go_at_call 39; refine T.mono ?_; rintro e w' ⟨rfl, m, rfl⟩))
    go_ret
    exact ⟨rfl, m, rfl⟩
  | false =>
    have C := find_no G bb sb S _ b hr w h
    have E : Hid ((S.P b).val o = 0) := by rw [hS.pout b hr]; exact e0_val o
    clear hr h
    go_enter Tryz.func15, Tryz.ntmps15
    go_wp2_with (go_at_call 38; refine C.mono ?_; rintro e w' ⟨rfl, rfl⟩)
    go_ret
    exact ⟨ret_int E.out.symm, 0, rfl⟩
theorem ps_waits (F : Nat → Prop) (sb : Nat) (S : Sk) (hS : S.Ok) (g : Nat) (o b c : Int) (wo : (Lit.int .i64 o).wf = true) (wc : (Lit.int .i64 c).wf = true) (w : World) (h : PSk F w sb S g) :
    Calls Tryz.prog 17 #[.pointer (some ⟨sb, 0, none⟩), .int .i64 o, .int .i64 b, .int .i64 c] w fun e w' => e = .returned (.int .i64 ((S.W b c).val o)) ∧ Below w.heap.size w w' := by
  obtain ⟨G, bb, hf, h⟩ := h
  cases hr : S.R b with
  | true =>
    have C := find_yes G bb sb S hS _ b hr w h
    obtain ⟨tag, p, pm, wm, H, q, qm, _, hb, hq, h0, _⟩ := h.bk b hr
    have D := bk_waitingOf hb g g hq h0 (fun _ => Nat.le_refl _) c wc
    have hx := hS.wok b c
    clear hr h hb hq h0
    go_enter Tryz.func17, Tryz.ntmps17
    go_wp2_with (go_at_call 38; refine C.mono ?_; rintro e w' ⟨rfl, rfl⟩)
    refine D.mono ?_
    rintro e w1 ⟨x, xm, rfl, hX, _, hB⟩
    go_wp2_with (go_at_call 39; refine (prog_value x xm _ _ hx o wo w1 hX).mono ?_; rintro e w' ⟨rfl, m, rfl⟩)
    go_ret
    exact ⟨rfl, below_drewN hB m⟩
  | false =>
    have C := find_no G bb sb S _ b hr w h
    have E : Hid ((S.W b c).val o = 0) := by rw [hS.wout b c (fun g => by rw [(hS.kin _ g).1] at hr; cases hr)]; exact e0_val o
    clear hr h
    go_enter Tryz.func17, Tryz.ntmps17
    go_wp2_with (go_at_call 38; refine C.mono ?_; rintro e w' ⟨rfl, rfl⟩)
    go_ret
    exact ⟨ret_int E.out.symm, Below.refl _ _⟩
end Go.Proofs.YtlhffdmhbplpjabGreatDoor
