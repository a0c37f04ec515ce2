/-
  Next lots, as Go reckons them; the program's by its contract.
-/
import Derived.Test.YtlhffdmhbplpjaaDoorKept
import Derived.Test.YtlhffdmhbplpjaaDoorLotsPlain
import Derived.Laws.Bits64
namespace Go.Proofs.YtlhffdmhbplpjaaDoor
open Go.RowKit

theorem next_state (s : Nat) : IntKind.u64.wrap ((s : Int) + 11400714819323198485) = ((nextS s : Nat) : Int) := by
  rw [IntKind.wrap_u64]
  unfold nextS
  show _ = (((s + 11400714819323198485) % 18446744073709551616 : Nat) : Int)
  omega
theorem div_word (a k : Nat) (ha : a < W64) : IntKind.u64.wrap ((a : Int).tdiv (k : Int)) = (a : Int) / (k : Int) := by
  rw [Int.tdiv_eq_ediv_of_nonneg (by omega), IntKind.wrap_u64]
  have h : a / k ≤ a := Nat.div_le_self _ _
  have e : (a : Int) / (k : Int) = ((a / k : Nat) : Int) := (Int.natCast_ediv a k).symm
  have ha' : a < 18446744073709551616 := ha
  rw [e]
  generalize a / k = m at *
  omega
theorem step_xs (k a C : Nat) : (a ^^^ a / 2 ^ k) * C % 18446744073709551616 = xs k a * C % W64 := by
  unfold xs
  rw [Nat.shiftRight_eq_div_pow]
/-- what the steps make of a state, as Go reckons them -/
theorem word_1 (a : Nat) (ha : a < W64) : IntKind.u64.wrap (bits .xor .u64 (a : Int) ((a : Int) / 1073741824) * 13787848793156543929) = ((xs 30 a * 13787848793156543929 % W64 : Nat) : Int) := by
  have h := mixStep_u64 a 1073741824 13787848793156543929 ha
  rw [show (1073741824 : Nat) = 2 ^ 30 from rfl, step_xs] at h
  exact h
theorem word_2 (a : Nat) (ha : a < W64) : IntKind.u64.wrap (bits .xor .u64 (a : Int) ((a : Int) / 134217728) * 10723151780598845931) = ((xs 27 a * 10723151780598845931 % W64 : Nat) : Int) := by
  have h := mixStep_u64 a 134217728 10723151780598845931 ha
  rw [show (134217728 : Nat) = 2 ^ 27 from rfl, step_xs] at h
  exact h
theorem word_3 (a : Nat) (ha : a < W64) : bits .xor .u64 (a : Int) ((a : Int) / 2147483648) = ((xs 31 a : Nat) : Int) := by
  have h := xorShift_u64 a 2147483648 ha
  have e : a ^^^ a / 2147483648 = xs 31 a := by
    unfold xs
    rw [Nat.shiftRight_eq_div_pow]
  rw [e] at h
  exact h
theorem ret_word {k : IntKind} {a b : Int} {w v : World} {p : Addr} {x y : Value} (h : a = b) (g : x = y) (e : w = v) : Ending.returned (.int k a) = .returned (.int k b) ∧ w.setCell p x = v.setCell p y := by rw [h, g, e]; exact ⟨rfl, rfl⟩
theorem mod64 (x : Nat) : x % W64 < W64 := Nat.mod_lt _ (by decide)
/-- a state that lies in a cell of its own -/
structure LotAt (w : World) (b s : Nat) : Prop where
  c : w.cell? ⟨b, 0, none⟩ = some (.int .u64 s)
  f : w.frozen? ⟨b, 0, none⟩ = false
  lt : s < W64
theorem LotAt.set {w : World} {b s : Nat} (h : LotAt w b s) (t : Nat) (ht : t < W64) : LotAt (w.setCell ⟨b, 0, none⟩ (.int .u64 t)) b t :=
  ⟨World.cell?_setCell_same _ _ _ h.c, by rw [World.frozen?_setCell]; exact h.f, ht⟩
theorem LotAt.kept {w w' : World} {b s : Nat} {X : List Nat} (h : LotAt w b s) (hK : Kept X w w') (hb : b ∉ X) : LotAt w' b s :=
  ⟨hK.old h.c hb, by rw [hK.frozen (cell_lt h.c) hb]; exact h.f, h.lt⟩
theorem LotAt.blk {w : World} {b s : Nat} (h : LotAt w b s) : b < w.heap.size := cell_lt h.c

set_option maxRecDepth 100000 in
theorem prog_next (b s : Nat) (w : World) (h : LotAt w b s) :
    Calls Tryd.prog 62 #[.pointer (some ⟨b, 0, none⟩)] w fun e w' => e = .returned (.int .u64 (nextL s)) ∧ w' = w.setCell ⟨b, 0, none⟩ (.int .u64 (nextS s)) := by
  have c := h.c
  have f := h.f
  go_enter Tryd.func62, Tryd.ntmps62
  go_wp2
  go_ret
  rw [next_state s, word_1 _ (nextS_lt s), word_2 _ (mod64 _), word_3 _ (mod64 _)]
  exact ⟨rfl, rfl⟩
def stateOf (w : World) (b : Nat) : Nat := match w.cell? ⟨b, 0, none⟩ with | some (.int _ s) => s.toNat | _ => 0
theorem LotAt.state {w : World} {b s : Nat} (h : LotAt w b s) : stateOf w b = s := by
  unfold stateOf
  rw [h.c]
  exact Int.toNat_natCast s
end Go.Proofs.YtlhffdmhbplpjaaDoor
