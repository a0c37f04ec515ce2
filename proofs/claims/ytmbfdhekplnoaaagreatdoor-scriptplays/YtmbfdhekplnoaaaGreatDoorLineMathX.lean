/-
  Texts of the laws on scripts: an error's text, or another one (bakehouselaw3: errorText, orElse); numbers in digits.
  A command's form (bakehouselaw3.formOf), by its contract.
  A command's text as the document builds it, number by number: plain facts.
-/
import Derived.Test.YtmbfdhekplnoaaaGreatDoorIssueMathX
import Derived.Test.YtmbfdhekplnoaaaGreatDoorTextOwnX
namespace Go.Proofs.YtmbfdhekplnoaaaGreatDoor
open Go.RowKit

theorem decimal_int (x : Int) (h0 : 0 ≤ x) (h1 : x ≤ 9223372036854775807) (w : World) :
    Calls Tryz.prog 29 #[.int .i64 x] w fun e w' => e = .returned (.string (bs (dec x.toNat))) ∧ Below w.heap.size w w' := by
  obtain ⟨n, rfl⟩ : ∃ n : Nat, x = n := ⟨x.toNat, by omega⟩
  exact decimal_of n (by omega) w
set_option maxRecDepth 100000 in
set_option maxHeartbeats 2000000 in
theorem errorText_of (e : Int) (h0 : 1 ≤ e) (h1 : e ≤ 10) (w : World) :
    Calls Tryz.prog 11 #[.int .i64 e] w fun r w' => r = .returned (.string (bs (errT e))) ∧ Below w.heap.size w w' := by
  have c : e = 1 ∨ e = 2 ∨ e = 3 ∨ e = 4 ∨ e = 5 ∨ e = 6 ∨ e = 7 ∨ e = 8 ∨ e = 9 ∨ e = 10 := by omega
  rcases c with rfl | rfl | rfl | rfl | rfl | rfl | rfl | rfl | rfl | rfl <;>
  · go_enter Tryz.func11, Tryz.ntmps11
    go_wp2
    go_ret
    exact ⟨rfl, (Below.refl _ _).alloc (Nat.le_refl _) _⟩
set_option maxRecDepth 100000 in
theorem orElse_of (e : Int) (h0 : 0 ≤ e) (h1 : e ≤ 10) (s : List UInt8) (w : World) :
    Calls Tryz.prog 37 #[.int .i64 e, .string (bs s)] w fun r w' => r = .returned (.string (bs (orT e s))) ∧ Below w.heap.size w w' := by
  by_cases h : 0 < e
  · have E : Hid (orT e s = errT e) := if_pos h
    go_enter Tryz.func37, Tryz.ntmps37
    go_wp2_with fail
    refine (errorText_of e (by omega) h1 w).mono ?_
    rintro r w1 ⟨rfl, hB⟩
    go_wp2_with fail
    go_ret
    exact ⟨by rw [E.out]; rfl, hB⟩
  · have E : Hid (orT e s = s) := if_neg h
    go_enter Tryz.func37, Tryz.ntmps37
    go_wp2_with fail
    go_ret
    exact ⟨by rw [E.out]; rfl, Below.refl _ _⟩
/-! errors' numbers -/
theorem Pu.moveC_bd (x : Pu) (o t n : Int) : 0 ≤ x.moveC o t n ∧ x.moveC o t n ≤ 10 := by unfold Pu.moveC; repeat' split <;> omega
theorem Pu.outC_bd (x : Pu) (o n : Int) : 0 ≤ x.outC o n ∧ x.outC o n ≤ 10 := by unfold Pu.outC; repeat' split <;> omega
theorem St.joinC_bd (x : St) (o n : Int) : 0 ≤ x.joinC o n ∧ x.joinC o n ≤ 10 := by unfold St.joinC; repeat' split <;> omega
theorem St.takeC_bd (x : St) (o n : Int) : 0 ≤ x.takeC o n ∧ x.takeC o n ≤ 10 := by unfold St.takeC; repeat' split <;> omega
theorem Sk.joinC_bd (S : Sk) (o b n : Int) : 0 ≤ S.joinC o b n ∧ S.joinC o b n ≤ 10 := by
  unfold Sk.joinC
  split
  · exact St.joinC_bd _ _ _
  · omega
theorem Ch.stakeC_bd (C : Ch) (o b n : Int) : 0 ≤ C.stakeC o b n ∧ C.stakeC o b n ≤ 10 := by
  unfold Ch.stakeC
  split
  · exact Pu.outC_bd _ _ _
  · exact Sk.joinC_bd _ _ _ _
theorem Sk.leaveC_bd (S : Sk) (o b n c : Int) : 0 ≤ S.leaveC o b n c ∧ S.leaveC o b n c ≤ 10 := by
  unfold Sk.leaveC
  split
  · split
    · omega
    · split
      · exact St.takeC_bd _ _ _
      · exact St.joinC_bd _ _ _
  · omega
theorem Sk.freeC_bd (S : Sk) (o c : Int) : 0 ≤ S.freeC o c ∧ S.freeC o c ≤ 10 := by unfold Sk.freeC; repeat' split <;> omega
theorem Ct.accC_bd (x : Ct) (o : Int) (e : Ev) (c : Int) : 0 ≤ x.accC o e c ∧ x.accC o e c ≤ 10 := by unfold Ct.accC; repeat' split <;> omega
end Go.Proofs.YtmbfdhekplnoaaaGreatDoor

namespace Go.Proofs.YtmbfdhekplnoaaaGreatDoor
open Go.RowKit

def formV : Option (List UInt8) → Value
  | some f => .tuple #[.string (bs f), .bool true]
  | none => .tuple #[.string (bs []), .bool false]
set_option maxRecDepth 100000 in
theorem form_pay (wd : ByteArray) (w : World) (ty : (wd.toList == [112, 97, 121]) = true) :
    Calls Tryz.prog 10 #[.string wd] w fun e w' => e = .returned (formV (some [100, 100, 110])) ∧ w' = w := by
  go_enter Tryz.func10, Tryz.ntmps10
  go_wp2
  go_ret2
  exact ⟨rfl, rfl⟩
set_option maxRecDepth 100000 in
theorem form_stake (wd : ByteArray) (w : World) (t0 : (wd.toList == [112, 97, 121]) = false) (ty : (wd.toList == [115, 116, 97, 107, 101]) = true) :
    Calls Tryz.prog 10 #[.string wd] w fun e w' => e = .returned (formV (some [100, 100, 110])) ∧ w' = w := by
  go_enter Tryz.func10, Tryz.ntmps10
  go_wp2
  go_ret2
  exact ⟨rfl, rfl⟩
set_option maxRecDepth 100000 in
theorem form_unstake (wd : ByteArray) (w : World) (t0 : (wd.toList == [112, 97, 121]) = false) (t1 : (wd.toList == [115, 116, 97, 107, 101]) = false) (ty : (wd.toList == [117, 110, 115, 116, 97, 107, 101]) = true) :
    Calls Tryz.prog 10 #[.string wd] w fun e w' => e = .returned (formV (some [100, 100, 110])) ∧ w' = w := by
  go_enter Tryz.func10, Tryz.ntmps10
  go_wp2
  go_ret2
  exact ⟨rfl, rfl⟩
set_option maxRecDepth 100000 in
theorem form_waits (wd : ByteArray) (w : World) (t0 : (wd.toList == [112, 97, 121]) = false) (t1 : (wd.toList == [115, 116, 97, 107, 101]) = false) (t2 : (wd.toList == [117, 110, 115, 116, 97, 107, 101]) = false) (ty : (wd.toList == [119, 97, 105, 116, 115]) = true) :
    Calls Tryz.prog 10 #[.string wd] w fun e w' => e = .returned (formV (some [100, 100, 110])) ∧ w' = w := by
  go_enter Tryz.func10, Tryz.ntmps10
  go_wp2
  go_ret2
  exact ⟨rfl, rfl⟩
set_option maxRecDepth 100000 in
theorem form_accuse (wd : ByteArray) (w : World) (t0 : (wd.toList == [112, 97, 121]) = false) (t1 : (wd.toList == [115, 116, 97, 107, 101]) = false) (t2 : (wd.toList == [117, 110, 115, 116, 97, 107, 101]) = false) (t3 : (wd.toList == [119, 97, 105, 116, 115]) = false) (ty : (wd.toList == [97, 99, 99, 117, 115, 101]) = true) :
    Calls Tryz.prog 10 #[.string wd] w fun e w' => e = .returned (formV (some [100, 100, 110, 110])) ∧ w' = w := by
  go_enter Tryz.func10, Tryz.ntmps10
  go_wp2
  go_ret2
  exact ⟨rfl, rfl⟩
set_option maxRecDepth 100000 in
theorem form_free (wd : ByteArray) (w : World) (t0 : (wd.toList == [112, 97, 121]) = false) (t1 : (wd.toList == [115, 116, 97, 107, 101]) = false) (t2 : (wd.toList == [117, 110, 115, 116, 97, 107, 101]) = false) (t3 : (wd.toList == [119, 97, 105, 116, 115]) = false) (t4 : (wd.toList == [97, 99, 99, 117, 115, 101]) = false) (ty : (wd.toList == [102, 114, 101, 101]) = true) :
    Calls Tryz.prog 10 #[.string wd] w fun e w' => e = .returned (formV (some [100])) ∧ w' = w := by
  go_enter Tryz.func10, Tryz.ntmps10
  go_wp2
  go_ret2
  exact ⟨rfl, rfl⟩
set_option maxRecDepth 100000 in
theorem form_bake (wd : ByteArray) (w : World) (t0 : (wd.toList == [112, 97, 121]) = false) (t1 : (wd.toList == [115, 116, 97, 107, 101]) = false) (t2 : (wd.toList == [117, 110, 115, 116, 97, 107, 101]) = false) (t3 : (wd.toList == [119, 97, 105, 116, 115]) = false) (t4 : (wd.toList == [97, 99, 99, 117, 115, 101]) = false) (t5 : (wd.toList == [102, 114, 101, 101]) = false) (ty : (wd.toList == [98, 97, 107, 101]) = true) :
    Calls Tryz.prog 10 #[.string wd] w fun e w' => e = .returned (formV (some [100])) ∧ w' = w := by
  go_enter Tryz.func10, Tryz.ntmps10
  go_wp2
  go_ret2
  exact ⟨rfl, rfl⟩
set_option maxRecDepth 100000 in
theorem form_turn (wd : ByteArray) (w : World) (t0 : (wd.toList == [112, 97, 121]) = false) (t1 : (wd.toList == [115, 116, 97, 107, 101]) = false) (t2 : (wd.toList == [117, 110, 115, 116, 97, 107, 101]) = false) (t3 : (wd.toList == [119, 97, 105, 116, 115]) = false) (t4 : (wd.toList == [97, 99, 99, 117, 115, 101]) = false) (t5 : (wd.toList == [102, 114, 101, 101]) = false) (t6 : (wd.toList == [98, 97, 107, 101]) = false) (ty : (wd.toList == [116, 117, 114, 110]) = true) :
    Calls Tryz.prog 10 #[.string wd] w fun e w' => e = .returned (formV (some [100])) ∧ w' = w := by
  go_enter Tryz.func10, Tryz.ntmps10
  go_wp2
  go_ret2
  exact ⟨rfl, rfl⟩
set_option maxRecDepth 100000 in
theorem form_has (wd : ByteArray) (w : World) (t0 : (wd.toList == [112, 97, 121]) = false) (t1 : (wd.toList == [115, 116, 97, 107, 101]) = false) (t2 : (wd.toList == [117, 110, 115, 116, 97, 107, 101]) = false) (t3 : (wd.toList == [119, 97, 105, 116, 115]) = false) (t4 : (wd.toList == [97, 99, 99, 117, 115, 101]) = false) (t5 : (wd.toList == [102, 114, 101, 101]) = false) (t6 : (wd.toList == [98, 97, 107, 101]) = false) (t7 : (wd.toList == [116, 117, 114, 110]) = false) (ty : (wd.toList == [104, 97, 115]) = true) :
    Calls Tryz.prog 10 #[.string wd] w fun e w' => e = .returned (formV (some [100])) ∧ w' = w := by
  go_enter Tryz.func10, Tryz.ntmps10
  go_wp2
  go_ret2
  exact ⟨rfl, rfl⟩
set_option maxRecDepth 100000 in
theorem form_staked (wd : ByteArray) (w : World) (t0 : (wd.toList == [112, 97, 121]) = false) (t1 : (wd.toList == [115, 116, 97, 107, 101]) = false) (t2 : (wd.toList == [117, 110, 115, 116, 97, 107, 101]) = false) (t3 : (wd.toList == [119, 97, 105, 116, 115]) = false) (t4 : (wd.toList == [97, 99, 99, 117, 115, 101]) = false) (t5 : (wd.toList == [102, 114, 101, 101]) = false) (t6 : (wd.toList == [98, 97, 107, 101]) = false) (t7 : (wd.toList == [116, 117, 114, 110]) = false) (t8 : (wd.toList == [104, 97, 115]) = false) (ty : (wd.toList == [115, 116, 97, 107, 101, 100]) = true) :
    Calls Tryz.prog 10 #[.string wd] w fun e w' => e = .returned (formV (some [100])) ∧ w' = w := by
  go_enter Tryz.func10, Tryz.ntmps10
  go_wp2
  go_ret2
  exact ⟨rfl, rfl⟩
set_option maxRecDepth 100000 in
theorem form_value (wd : ByteArray) (w : World) (t0 : (wd.toList == [112, 97, 121]) = false) (t1 : (wd.toList == [115, 116, 97, 107, 101]) = false) (t2 : (wd.toList == [117, 110, 115, 116, 97, 107, 101]) = false) (t3 : (wd.toList == [119, 97, 105, 116, 115]) = false) (t4 : (wd.toList == [97, 99, 99, 117, 115, 101]) = false) (t5 : (wd.toList == [102, 114, 101, 101]) = false) (t6 : (wd.toList == [98, 97, 107, 101]) = false) (t7 : (wd.toList == [116, 117, 114, 110]) = false) (t8 : (wd.toList == [104, 97, 115]) = false) (t9 : (wd.toList == [115, 116, 97, 107, 101, 100]) = false) (ty : (wd.toList == [118, 97, 108, 117, 101]) = true) :
    Calls Tryz.prog 10 #[.string wd] w fun e w' => e = .returned (formV (some [100, 100])) ∧ w' = w := by
  go_enter Tryz.func10, Tryz.ntmps10
  go_wp2
  go_ret2
  exact ⟨rfl, rfl⟩
set_option maxRecDepth 100000 in
theorem form_cycle (wd : ByteArray) (w : World) (t0 : (wd.toList == [112, 97, 121]) = false) (t1 : (wd.toList == [115, 116, 97, 107, 101]) = false) (t2 : (wd.toList == [117, 110, 115, 116, 97, 107, 101]) = false) (t3 : (wd.toList == [119, 97, 105, 116, 115]) = false) (t4 : (wd.toList == [97, 99, 99, 117, 115, 101]) = false) (t5 : (wd.toList == [102, 114, 101, 101]) = false) (t6 : (wd.toList == [98, 97, 107, 101]) = false) (t7 : (wd.toList == [116, 117, 114, 110]) = false) (t8 : (wd.toList == [104, 97, 115]) = false) (t9 : (wd.toList == [115, 116, 97, 107, 101, 100]) = false) (t10 : (wd.toList == [118, 97, 108, 117, 101]) = false) (ty : (wd.toList == [99, 121, 99, 108, 101]) = true) :
    Calls Tryz.prog 10 #[.string wd] w fun e w' => e = .returned (formV (some [])) ∧ w' = w := by
  go_enter Tryz.func10, Tryz.ntmps10
  go_wp2
  go_ret2
  exact ⟨rfl, rfl⟩
set_option maxRecDepth 100000 in
theorem form_supply (wd : ByteArray) (w : World) (t0 : (wd.toList == [112, 97, 121]) = false) (t1 : (wd.toList == [115, 116, 97, 107, 101]) = false) (t2 : (wd.toList == [117, 110, 115, 116, 97, 107, 101]) = false) (t3 : (wd.toList == [119, 97, 105, 116, 115]) = false) (t4 : (wd.toList == [97, 99, 99, 117, 115, 101]) = false) (t5 : (wd.toList == [102, 114, 101, 101]) = false) (t6 : (wd.toList == [98, 97, 107, 101]) = false) (t7 : (wd.toList == [116, 117, 114, 110]) = false) (t8 : (wd.toList == [104, 97, 115]) = false) (t9 : (wd.toList == [115, 116, 97, 107, 101, 100]) = false) (t10 : (wd.toList == [118, 97, 108, 117, 101]) = false) (t11 : (wd.toList == [99, 121, 99, 108, 101]) = false) (ty : (wd.toList == [115, 117, 112, 112, 108, 121]) = true) :
    Calls Tryz.prog 10 #[.string wd] w fun e w' => e = .returned (formV (some [])) ∧ w' = w := by
  go_enter Tryz.func10, Tryz.ntmps10
  go_wp2
  go_ret2
  exact ⟨rfl, rfl⟩
set_option maxRecDepth 100000 in
theorem form_bonus (wd : ByteArray) (w : World) (t0 : (wd.toList == [112, 97, 121]) = false) (t1 : (wd.toList == [115, 116, 97, 107, 101]) = false) (t2 : (wd.toList == [117, 110, 115, 116, 97, 107, 101]) = false) (t3 : (wd.toList == [119, 97, 105, 116, 115]) = false) (t4 : (wd.toList == [97, 99, 99, 117, 115, 101]) = false) (t5 : (wd.toList == [102, 114, 101, 101]) = false) (t6 : (wd.toList == [98, 97, 107, 101]) = false) (t7 : (wd.toList == [116, 117, 114, 110]) = false) (t8 : (wd.toList == [104, 97, 115]) = false) (t9 : (wd.toList == [115, 116, 97, 107, 101, 100]) = false) (t10 : (wd.toList == [118, 97, 108, 117, 101]) = false) (t11 : (wd.toList == [99, 121, 99, 108, 101]) = false) (t12 : (wd.toList == [115, 117, 112, 112, 108, 121]) = false) (ty : (wd.toList == [98, 111, 110, 117, 115]) = true) :
    Calls Tryz.prog 10 #[.string wd] w fun e w' => e = .returned (formV (some [])) ∧ w' = w := by
  go_enter Tryz.func10, Tryz.ntmps10
  go_wp2
  go_ret2
  exact ⟨rfl, rfl⟩
set_option maxRecDepth 100000 in
theorem form_at (wd : ByteArray) (w : World) (t0 : (wd.toList == [112, 97, 121]) = false) (t1 : (wd.toList == [115, 116, 97, 107, 101]) = false) (t2 : (wd.toList == [117, 110, 115, 116, 97, 107, 101]) = false) (t3 : (wd.toList == [119, 97, 105, 116, 115]) = false) (t4 : (wd.toList == [97, 99, 99, 117, 115, 101]) = false) (t5 : (wd.toList == [102, 114, 101, 101]) = false) (t6 : (wd.toList == [98, 97, 107, 101]) = false) (t7 : (wd.toList == [116, 117, 114, 110]) = false) (t8 : (wd.toList == [104, 97, 115]) = false) (t9 : (wd.toList == [115, 116, 97, 107, 101, 100]) = false) (t10 : (wd.toList == [118, 97, 108, 117, 101]) = false) (t11 : (wd.toList == [99, 121, 99, 108, 101]) = false) (t12 : (wd.toList == [115, 117, 112, 112, 108, 121]) = false) (t13 : (wd.toList == [98, 111, 110, 117, 115]) = false) (ty : (wd.toList == [97, 116]) = true) :
    Calls Tryz.prog 10 #[.string wd] w fun e w' => e = .returned (formV (some [])) ∧ w' = w := by
  go_enter Tryz.func10, Tryz.ntmps10
  go_wp2
  go_ret2
  exact ⟨rfl, rfl⟩
set_option maxRecDepth 100000 in
theorem form_none (wd : ByteArray) (w : World) (t0 : (wd.toList == [112, 97, 121]) = false) (t1 : (wd.toList == [115, 116, 97, 107, 101]) = false) (t2 : (wd.toList == [117, 110, 115, 116, 97, 107, 101]) = false) (t3 : (wd.toList == [119, 97, 105, 116, 115]) = false) (t4 : (wd.toList == [97, 99, 99, 117, 115, 101]) = false) (t5 : (wd.toList == [102, 114, 101, 101]) = false) (t6 : (wd.toList == [98, 97, 107, 101]) = false) (t7 : (wd.toList == [116, 117, 114, 110]) = false) (t8 : (wd.toList == [104, 97, 115]) = false) (t9 : (wd.toList == [115, 116, 97, 107, 101, 100]) = false) (t10 : (wd.toList == [118, 97, 108, 117, 101]) = false) (t11 : (wd.toList == [99, 121, 99, 108, 101]) = false) (t12 : (wd.toList == [115, 117, 112, 112, 108, 121]) = false) (t13 : (wd.toList == [98, 111, 110, 117, 115]) = false) (t14 : (wd.toList == [97, 116]) = false) :
    Calls Tryz.prog 10 #[.string wd] w fun e w' => e = .returned (formV none) ∧ w' = w := by
  go_enter Tryz.func10, Tryz.ntmps10
  go_wp2
  go_ret2
  exact ⟨rfl, rfl⟩
theorem formL_pay : formL wPay = some [100, 100, 110] := by decide
theorem formL_stake : formL wStake = some [100, 100, 110] := by decide
theorem formL_unstake : formL wUnstake = some [100, 100, 110] := by decide
theorem formL_waits : formL wWaits = some [100, 100, 110] := by decide
theorem formL_accuse : formL wAccuse = some [100, 100, 110, 110] := by decide
theorem formL_free : formL wFree = some [100] := by decide
theorem formL_bake : formL wBake = some [100] := by decide
theorem formL_turn : formL wTurn = some [100] := by decide
theorem formL_has : formL wHas = some [100] := by decide
theorem formL_staked : formL wStaked = some [100] := by decide
theorem formL_value : formL wValue = some [100, 100] := by decide
theorem formL_cycle : formL wCycle = some [] := by decide
theorem formL_supply : formL wSupply = some [] := by decide
theorem formL_bonus : formL wBonus = some [] := by decide
theorem formL_at : formL wAt = some [] := by decide
theorem formOf_of (wd : ByteArray) (w : World) :
    Calls Tryz.prog 10 #[.string wd] w fun e w' => e = .returned (formV (formL wd.toList)) ∧ w' = w := by
  cases t0 : (wd.toList == [112, 97, 121]) with
  | true => rw [show wd.toList = wPay from eq_of_beq t0, formL_pay]; exact form_pay wd w t0
  | false =>
    cases t1 : (wd.toList == [115, 116, 97, 107, 101]) with
    | true => rw [show wd.toList = wStake from eq_of_beq t1, formL_stake]; exact form_stake wd w t0 t1
    | false =>
      cases t2 : (wd.toList == [117, 110, 115, 116, 97, 107, 101]) with
      | true => rw [show wd.toList = wUnstake from eq_of_beq t2, formL_unstake]; exact form_unstake wd w t0 t1 t2
      | false =>
        cases t3 : (wd.toList == [119, 97, 105, 116, 115]) with
        | true => rw [show wd.toList = wWaits from eq_of_beq t3, formL_waits]; exact form_waits wd w t0 t1 t2 t3
        | false =>
          cases t4 : (wd.toList == [97, 99, 99, 117, 115, 101]) with
          | true => rw [show wd.toList = wAccuse from eq_of_beq t4, formL_accuse]; exact form_accuse wd w t0 t1 t2 t3 t4
          | false =>
            cases t5 : (wd.toList == [102, 114, 101, 101]) with
            | true => rw [show wd.toList = wFree from eq_of_beq t5, formL_free]; exact form_free wd w t0 t1 t2 t3 t4 t5
            | false =>
              cases t6 : (wd.toList == [98, 97, 107, 101]) with
              | true => rw [show wd.toList = wBake from eq_of_beq t6, formL_bake]; exact form_bake wd w t0 t1 t2 t3 t4 t5 t6
              | false =>
                cases t7 : (wd.toList == [116, 117, 114, 110]) with
                | true => rw [show wd.toList = wTurn from eq_of_beq t7, formL_turn]; exact form_turn wd w t0 t1 t2 t3 t4 t5 t6 t7
                | false =>
                  cases t8 : (wd.toList == [104, 97, 115]) with
                  | true => rw [show wd.toList = wHas from eq_of_beq t8, formL_has]; exact form_has wd w t0 t1 t2 t3 t4 t5 t6 t7 t8
                  | false =>
                    cases t9 : (wd.toList == [115, 116, 97, 107, 101, 100]) with
                    | true => rw [show wd.toList = wStaked from eq_of_beq t9, formL_staked]; exact form_staked wd w t0 t1 t2 t3 t4 t5 t6 t7 t8 t9
                    | false =>
                      cases t10 : (wd.toList == [118, 97, 108, 117, 101]) with
                      | true => rw [show wd.toList = wValue from eq_of_beq t10, formL_value]; exact form_value wd w t0 t1 t2 t3 t4 t5 t6 t7 t8 t9 t10
                      | false =>
                        cases t11 : (wd.toList == [99, 121, 99, 108, 101]) with
                        | true => rw [show wd.toList = wCycle from eq_of_beq t11, formL_cycle]; exact form_cycle wd w t0 t1 t2 t3 t4 t5 t6 t7 t8 t9 t10 t11
                        | false =>
                          cases t12 : (wd.toList == [115, 117, 112, 112, 108, 121]) with
                          | true => rw [show wd.toList = wSupply from eq_of_beq t12, formL_supply]; exact form_supply wd w t0 t1 t2 t3 t4 t5 t6 t7 t8 t9 t10 t11 t12
                          | false =>
                            cases t13 : (wd.toList == [98, 111, 110, 117, 115]) with
                            | true => rw [show wd.toList = wBonus from eq_of_beq t13, formL_bonus]; exact form_bonus wd w t0 t1 t2 t3 t4 t5 t6 t7 t8 t9 t10 t11 t12 t13
                            | false =>
                              cases t14 : (wd.toList == [97, 116]) with
                              | true => rw [show wd.toList = wAt from eq_of_beq t14, formL_at]; exact form_at wd w t0 t1 t2 t3 t4 t5 t6 t7 t8 t9 t10 t11 t12 t13 t14
                              | false =>
                                have e : formL wd.toList = none := by
                                  unfold formL
                                  rw [if_neg (show wd.toList ≠ wPay from ne_of_beq_false t0), if_neg (show wd.toList ≠ wStake from ne_of_beq_false t1), if_neg (show wd.toList ≠ wUnstake from ne_of_beq_false t2), if_neg (show wd.toList ≠ wWaits from ne_of_beq_false t3), if_neg (show wd.toList ≠ wAccuse from ne_of_beq_false t4), if_neg (show wd.toList ≠ wFree from ne_of_beq_false t5), if_neg (show wd.toList ≠ wBake from ne_of_beq_false t6), if_neg (show wd.toList ≠ wTurn from ne_of_beq_false t7), if_neg (show wd.toList ≠ wHas from ne_of_beq_false t8), if_neg (show wd.toList ≠ wStaked from ne_of_beq_false t9), if_neg (show wd.toList ≠ wValue from ne_of_beq_false t10), if_neg (show wd.toList ≠ wCycle from ne_of_beq_false t11), if_neg (show wd.toList ≠ wSupply from ne_of_beq_false t12), if_neg (show wd.toList ≠ wBonus from ne_of_beq_false t13), if_neg (show wd.toList ≠ wAt from ne_of_beq_false t14)]
                                rw [e]; exact form_none wd w t0 t1 t2 t3 t4 t5 t6 t7 t8 t9 t10 t11 t12 t13 t14
end Go.Proofs.YtmbfdhekplnoaaaGreatDoor

namespace Go.Proofs.YtmbfdhekplnoaaaGreatDoor
open Go.RowKit

theorem bs_toList (wd : ByteArray) : bs wd.toList = wd := by
  rw [ByteArray.toList_eq]
  unfold bs
  ext1
  simp
theorem line_bs (a b : List UInt8) : bs a ++ bs [32] ++ bs b = bs (a ++ 32 :: b) := by rw [bs_append, bs_append]; simp
theorem line_old {w w' : World} (hB : Below w.heap.size w w') {a : Addr} {v : Value} (h : w.cell? a = some v) : w'.cell? a = some v := by rw [hB.cell (cell_lt h)]; exact h
def natsOf (X : Nat → Int) (k : Nat) : List Nat := (List.range k).map fun i => (X i).toNat
theorem natsOf_next (X : Nat → Int) (k : Nat) : natsOf X (k + 1) = natsOf X k ++ [(X k).toNat] := by simp [natsOf, List.range_succ]
theorem natsOf_len (X : Nat → Int) (k : Nat) : (natsOf X k).length = k := by simp [natsOf]
theorem natsOf_at (X : Nat → Int) (k i : Nat) (h : i < k) : (natsOf X k).getD i 0 = (X i).toNat := by
  unfold natsOf
  rw [List.getD_eq_getElem?_getD, List.getElem?_map, List.getElem?_range h]
  rfl
theorem numText_append (a b : List Nat) : numText (a ++ b) = numText a ++ numText b := by simp [numText]
theorem cmdText_next (wl : List UInt8) (X : Nat → Int) (k : Nat) : cmdText wl (natsOf X (k + 1)) = cmdText wl (natsOf X k) ++ 32 :: dec (X k).toNat := by
  unfold cmdText
  rw [natsOf_next, numText_append, ← List.append_assoc, numText_cons]
  simp [numText]
theorem cmdText_len (wl : List UInt8) (X : Nat → Int) (n : Nat) (hX : ∀ i, i < n → X i ≤ 9999999) : ∀ k, k ≤ n → (cmdText wl (natsOf X k)).length ≤ wl.length + 20 * k
  | 0, _ => by simp [cmdText, natsOf, numText]
  | k + 1, hk => by
    rw [cmdText_next, List.length_append, List.length_cons]
    have := cmdText_len wl X n hX k (by omega)
    have := dec_len19 (n := (X k).toNat) (by have := hX k (by omega); omega)
    omega
theorem mostOf_top (f : List UInt8) (i : Nat) : mostOf f i ≤ 9999999 := by unfold mostOf; split <;> omega
theorem index_form (f : List UInt8) (k : Nat) (h : k < f.length) (w : World) : (Instr.index 9 (.string (bs f)) (.int .i64 k)).run Tryz.prog w = .ok (.int .u8 ((f.getD k 0).toNat : Nat)) w := by
  have e : (bs f).size = f.length := bs_size f
  rw [run_index_string w 9 (bs f) .i64 k Tryz.underlying9, dif_pos ⟨by omega, by rw [e]; omega⟩]
  have g : f.getD k 0 = f[k] := by rw [List.getD_eq_getElem?_getD, List.getElem?_eq_getElem h]; rfl
  rw [g]
  rfl
end Go.Proofs.YtmbfdhekplnoaaaGreatDoor
