/-
  The program's stakes by their contracts: what they tell of one baker.
-/
import Derived.Test.YtaihcceobnfmhaaDoorProgStkX
import Derived.Test.YtaihcceobnfmhaaDoorProgBkFreeX
namespace Go.Proofs.YtaihcceobnfmhaaDoor
open Go.RowKit

theorem baker_yes (b : Int) (h0 : 0 ≤ b) (h3 : b < 3) (w : World) :
    Calls Tryd.prog 39 #[.int .i64 b] w fun e w' => e = .returned (.bool true) ∧ w' = w := by
  go_enter Tryd.func39, Tryd.ntmps39
  go_wp2
  go_ret
  exact ⟨rfl, rfl⟩
theorem baker_no (b : Int) (h : ¬ Bk b) (w : World) :
    Calls Tryd.prog 39 #[.int .i64 b] w fun e w' => e = .returned (.bool false) ∧ w' = w := by
  by_cases h0 : 0 ≤ b
  · have h3 : ¬ b < 3 := by omega
    clear h
    go_enter Tryd.func39, Tryd.ntmps39
    go_wp2
    go_ret
    exact ⟨rfl, rfl⟩
  · clear h
    go_enter Tryd.func39, Tryd.ntmps39
    go_wp2
    go_ret
    exact ⟨rfl, rfl⟩
theorem cycle_yes (c : Int) (h0 : 0 ≤ c) (h1 : c ≤ 1048576) (w : World) :
    Calls Tryd.prog 46 #[.int .i64 c] w fun e w' => e = .returned (.bool true) ∧ w' = w := by
  go_enter Tryd.func46, Tryd.ntmps46
  go_wp2
  go_ret
  exact ⟨rfl, rfl⟩
theorem cycle_no (c : Int) (h : ¬ Cy c) (w : World) :
    Calls Tryd.prog 46 #[.int .i64 c] w fun e w' => e = .returned (.bool false) ∧ w' = w := by
  by_cases h0 : 0 ≤ c
  · have h3 : ¬ c ≤ 1048576 := by omega
    clear h
    go_enter Tryd.func46, Tryd.ntmps46
    go_wp2
    go_ret
    exact ⟨rfl, rfl⟩
  · clear h
    go_enter Tryd.func46, Tryd.ntmps46
    go_wp2
    go_ret
    exact ⟨rfl, rfl⟩

theorem find_yes (G : Int → Nat → Prop) (bb : Int → Nat) (sb : Nat) (S : Sk) (hS : S.Ok) (gb : Int → Nat) (b : Int) (hr : S.R b = true) (w : World) (h : PSkAt G bb w sb S gb) :
    Calls Tryd.prog 42 #[.pointer (some ⟨sb, 0, none⟩), .int .i64 b] w fun e w' => e = .returned (.pointer (some ⟨bb b, 0, none⟩)) ∧ w' = w := by
  obtain ⟨b0, b3⟩ := hS.rin b hr
  have I := baker_yes b b0 b3
  obtain ⟨k, rfl⟩ : ∃ k : Nat, b = k := ⟨b.toNat, by omega⟩
  have hk : k < 3 := by omega
  have hc := h.c k hk
  rw [hr] at hc
  simp only [if_true] at hc
  clear hr h b0 b3
  go_enter Tryd.func42, Tryd.ntmps42
  go_wp2_with (go_at_call 39; refine (I _).mono ?_; rintro e w' ⟨rfl, rfl⟩)
  go_ret
  exact ⟨rfl, rfl⟩
theorem find_no (G : Int → Nat → Prop) (bb : Int → Nat) (sb : Nat) (S : Sk) (gb : Int → Nat) (b : Int) (hr : S.R b = false) (w : World) (h : PSkAt G bb w sb S gb) :
    Calls Tryd.prog 42 #[.pointer (some ⟨sb, 0, none⟩), .int .i64 b] w fun e w' => e = .returned (.pointer none) ∧ w' = w := by
  by_cases hb : Bk b
  · obtain ⟨b0, b3⟩ := hb
    have I := baker_yes b b0 b3
    obtain ⟨k, rfl⟩ : ∃ k : Nat, b = k := ⟨b.toNat, by omega⟩
    have hk : k < 3 := by omega
    have hc := h.c k hk
    rw [hr] at hc
    simp only [Bool.false_eq_true, if_false] at hc
    clear hr h b0 b3
    go_enter Tryd.func42, Tryd.ntmps42
    go_wp2_with (go_at_call 39; refine (I _).mono ?_; rintro e w' ⟨rfl, rfl⟩)
    go_ret
    exact ⟨rfl, rfl⟩
  · have I := baker_no b hb
    clear hb h hr
    go_enter Tryd.func42, Tryd.ntmps42
    go_wp2_with (go_at_call 39; refine (I _).mono ?_; rintro e w' ⟨rfl, rfl⟩)
    go_ret
    exact ⟨rfl, rfl⟩
theorem is_at (G : Int → Nat → Prop) (bb : Int → Nat) (sb : Nat) (S : Sk) (hS : S.Ok) (gb : Int → Nat) (b : Int) (w : World) (h : PSkAt G bb w sb S gb) :
    Calls Tryd.prog 40 #[.pointer (some ⟨sb, 0, none⟩), .int .i64 b] w fun e w' => e = .returned (.bool (S.R b)) ∧ w' = w := by
  cases hr : S.R b with
  | true =>
    have C := find_yes G bb sb S hS _ b hr w h
    clear hr h
    go_enter Tryd.func40, Tryd.ntmps40
    go_wp2_with (go_at_call 42; refine C.mono ?_; rintro e w' ⟨rfl, rfl⟩)
    go_ret
    exact ⟨rfl, rfl⟩
  | false =>
    have C := find_no G bb sb S _ b hr w h
    clear hr h
    go_enter Tryd.func40, Tryd.ntmps40
    go_wp2_with (go_at_call 42; refine C.mono ?_; rintro e w' ⟨rfl, rfl⟩)
    go_ret
    exact ⟨rfl, rfl⟩
theorem ps_is (F : Nat → Prop) (sb : Nat) (S : Sk) (hS : S.Ok) (g : Nat) (b : Int) (w : World) (h : PSk F w sb S g) :
    Calls Tryd.prog 40 #[.pointer (some ⟨sb, 0, none⟩), .int .i64 b] w fun e w' => e = .returned (.bool (S.R b)) ∧ ∃ m, w' = w.drewN m := by
  obtain ⟨G, bb, hf, h⟩ := h
  exact (is_at G bb sb S hS _ b w h).mono fun e w' ⟨h1, h2⟩ => ⟨h1, 0, h2⟩
theorem ps_staked (F : Nat → Prop) (sb : Nat) (S : Sk) (hS : S.Ok) (g : Nat) (b : Int) (w : World) (h : PSk F w sb S g) :
    Calls Tryd.prog 26 #[.pointer (some ⟨sb, 0, none⟩), .int .i64 b] w fun e w' => e = .returned (.int .i64 (S.P b).T) ∧ ∃ m, w' = w.drewN m := by
  obtain ⟨G, bb, hf, h⟩ := h
  cases hr : S.R b with
  | true =>
    have C := find_yes G bb sb S hS _ b hr w h
    obtain ⟨tag, p, pm, wm, H, q, qm, _, hb, _⟩ := h.bk b hr
    have c0 := hb.c0
    have T := prog_total p pm _ _ w hb.pool
    clear hr h hb
    go_enter Tryd.func26, Tryd.ntmps26
    go_wp2_with (first | (go_at_call 42; refine C.mono ?_; rintro e w' ⟨rfl, rfl⟩) | (go_at_call 43; refine T.mono ?_; rintro e w' ⟨rfl, rfl⟩))
    go_ret
    exact ⟨rfl, 0, rfl⟩
  | false =>
    have C := find_no G bb sb S _ b hr w h
    have E : Hid ((S.P b).T = 0) := by rw [hS.pout b hr]; rfl
    clear hr h
    go_enter Tryd.func26, Tryd.ntmps26
    go_wp2_with (go_at_call 42; refine C.mono ?_; rintro e w' ⟨rfl, rfl⟩)
    go_ret
    exact ⟨ret_int E.out.symm, 0, rfl⟩
end Go.Proofs.YtaihcceobnfmhaaDoor
