/-
  Package bound by its contracts: which numbers are amounts, and which are owners.
-/
import Derived.Test.YtlhffdmhbplpjaaDoorAid
namespace Go.Proofs.YtlhffdmhbplpjaaDoor
open Go.RowKit

theorem owner_yes (o : Int) (h0 : 0 ≤ o) (h6 : o < 6) (w : World) :
    Calls Tryd.prog 75 #[.int .i64 o] w fun e w' => e = .returned (.bool true) ∧ w' = w := by
  go_enter Tryd.func75, Tryd.ntmps75
  go_wp2
  go_ret
  exact ⟨rfl, rfl⟩
theorem owner_no (o : Int) (h : ¬ (0 ≤ o ∧ o < 6)) (w : World) :
    Calls Tryd.prog 75 #[.int .i64 o] w fun e w' => e = .returned (.bool false) ∧ w' = w := by
  by_cases h0 : 0 ≤ o
  · have h6 : ¬ o < 6 := by omega
    clear h
    go_enter Tryd.func75, Tryd.ntmps75
    go_wp2
    go_ret
    exact ⟨rfl, rfl⟩
  · clear h
    go_enter Tryd.func75, Tryd.ntmps75
    go_wp2
    go_ret
    exact ⟨rfl, rfl⟩
theorem some_yes (n : Int) (h0 : 1 ≤ n) (h1 : n ≤ 1125899906842624) (w : World) :
    Calls Tryd.prog 76 #[.int .i64 n] w fun e w' => e = .returned (.bool true) ∧ w' = w := by
  go_enter Tryd.func76, Tryd.ntmps76
  go_wp2
  go_ret
  exact ⟨rfl, rfl⟩
theorem some_no (n : Int) (h : ¬ (1 ≤ n ∧ n ≤ 1125899906842624)) (w : World) :
    Calls Tryd.prog 76 #[.int .i64 n] w fun e w' => e = .returned (.bool false) ∧ w' = w := by
  by_cases h0 : 1 ≤ n
  · have h1 : ¬ n ≤ 1125899906842624 := by omega
    clear h
    go_enter Tryd.func76, Tryd.ntmps76
    go_wp2
    go_ret
    exact ⟨rfl, rfl⟩
  · clear h
    go_enter Tryd.func76, Tryd.ntmps76
    go_wp2
    go_ret
    exact ⟨rfl, rfl⟩
theorem amount_yes (n : Int) (h0 : 0 ≤ n) (h1 : n ≤ 1125899906842624) (w : World) :
    Calls Tryd.prog 78 #[.int .i64 n] w fun e w' => e = .returned (.bool true) ∧ w' = w := by
  go_enter Tryd.func78, Tryd.ntmps78
  go_wp2
  go_ret
  exact ⟨rfl, rfl⟩
theorem amount_no (n : Int) (h : ¬ (0 ≤ n ∧ n ≤ 1125899906842624)) (w : World) :
    Calls Tryd.prog 78 #[.int .i64 n] w fun e w' => e = .returned (.bool false) ∧ w' = w := by
  by_cases h0 : 0 ≤ n
  · have h1 : ¬ n ≤ 1125899906842624 := by omega
    clear h
    go_enter Tryd.func78, Tryd.ntmps78
    go_wp2
    go_ret
    exact ⟨rfl, rfl⟩
  · clear h
    go_enter Tryd.func78, Tryd.ntmps78
    go_wp2
    go_ret
    exact ⟨rfl, rfl⟩
end Go.Proofs.YtlhffdmhbplpjaaDoor
