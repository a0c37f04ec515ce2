/-
  A new draw of the program by its contracts; the closed fact.
  Next lots, as Go reckons them; the program's by its contract.
  The program's lots by their contracts: a new one, numbers mixed; the closed fact.
-/
import Derived.Test.YtaihcceobnfmhaaDoorProgFill
import Derived.Test.YtaihcceobnfmhaaDoorKeptPX
import Derived.Test.YtaihcceobnfmhaaDoorWaitsMathX
import Derived.Laws.Bits64
import Derived.Test.YtaihcceobnfmhaaDoorIntsOwn
namespace Go.Proofs.YtaihcceobnfmhaaDoor
open Go.RowKit Go.Deep

set_option maxRecDepth 100000 in
/-- New hands the error of the weights on, and no draw. -/
theorem new_hands (v : Value) (w : World) (R : Value → World → Prop)
    (ck : Calls Tryd.prog 47 #[v] w fun e w' => ∃ u y, e = .returned (.tuple #[.int .i64 0, .iface u y]) ∧ R (.iface u y) w') :
    Calls Tryd.prog 32 #[v] w fun e w' => ∃ u y, e = .returned (.tuple #[.pointer none, .iface u y]) ∧ R (.iface u y) w' := by
  go_enter Tryd.func32, Tryd.ntmps32
  go_wp2_with fail
  refine ck.mono ?_
  rintro e w1 ⟨u, y, rfl, hR⟩
  have HR := hide hR
  clear hR ck
  go_wp2
  go_ret2
  exact ⟨_, _, rfl, HR.out⟩

set_option maxRecDepth 100000 in
set_option maxHeartbeats 1000000 in
theorem new_fine (b off n cap : Nat) (W : Nat → Int) (w : World) (hI : Ints w b off n W) (hb : b < w.heap.size) (hW : Weights n W) (h0 : sumTo W n ≠ 0) :
    Calls Tryd.prog 32 #[.slice (some ⟨b, off, none⟩) n cap] w fun e w' => ∃ d c, e = .returned (.tuple #[.pointer (some ⟨d, 0, none⟩), .nilIface]) ∧ w.heap.size ≤ d ∧ DrawAt w' d c n (sumTo W n) (dend n W) ∧ Below w.heap.size w w' := by
  have T := together_fine b off n cap W w hI hW h0
  have F := fill_of b off n cap W w hI hb hW
  clear h0 hI
  go_enter Tryd.func32, Tryd.ntmps32
  go_wp2_with (first | (go_at_call 47; refine T.mono ?_; rintro e w1 ⟨rfl, rfl⟩) | (go_at_call 48; refine F.mono ?_; rintro e w1 ⟨c, rfl, hc, hcol, hB⟩))
  go_ret2
  have hs := hB.size
  refine ⟨_, _, rfl, hs, ⟨cell_new _ _ _ _ _ _ rfl rfl, cell_new _ _ _ _ _ _ rfl rfl, fun k hk => ?_, fun k hk => ?_⟩, hB.alloc hs _⟩
  · rw [World.cell?_alloc_lt _ _ _ (cell_lt (hcol k hk).1)]; exact (hcol k hk).1
  · rw [World.cell?_alloc_lt _ _ _ (cell_lt (hcol k hk).2)]; exact (hcol k hk).2

/-! the closed fact -/
def two : Nat → Int := fun i => if i = 0 then 1 else 3
theorem two_weights : Weights 2 two := ⟨by omega, by omega, fun k hk => by unfold two; split <;> omega⟩
theorem two_sum : sumTo two 2 = 4 := by decide
theorem two_pick : (dend 2 two).pick 0 2 = 1 := by decide
theorem two_ints (w : World) (t : TypeId) : Ints (w.alloc (.cells #[.int .i64 1, .int .i64 3] t)) w.heap.size 0 2 two := fun i hi => by
  have : i = 0 ∨ i = 1 := by omega
  rcases this with rfl | rfl
  · exact cell_new _ _ _ _ _ _ rfl rfl
  · exact cell_new _ _ _ _ _ _ rfl rfl
end Go.Proofs.YtaihcceobnfmhaaDoor

namespace Go.Proofs.YtaihcceobnfmhaaDoor
open Go.RowKit

theorem next_state (s : Nat) : IntKind.u64.wrap ((s : Int) + 11400714819323198485) = ((nextS s : Nat) : Int) := by
  rw [IntKind.wrap_u64]
  unfold nextS
  show _ = (((s + 11400714819323198485) % 18446744073709551616 : Nat) : Int)
  omega
theorem div_word (a k : Nat) (ha : a < W64) : IntKind.u64.wrap ((a : Int).tdiv (k : Int)) = (a : Int) / (k : Int) := by
  rw [Int.tdiv_eq_ediv_of_nonneg (by omega), IntKind.wrap_u64]
  have h : a / k ≤ a := Nat.div_le_self _ _
  have e : (a : Int) / (k : Int) = ((a / k : Nat) : Int) := (Int.natCast_ediv a k).symm
  have ha' : a < 18446744073709551616 := ha
  rw [e]
  generalize a / k = m at *
  omega
theorem step_xs (k a C : Nat) : (a ^^^ a / 2 ^ k) * C % 18446744073709551616 = xs k a * C % W64 := by
  unfold xs
  rw [Nat.shiftRight_eq_div_pow]
/-- what the steps make of a state, as Go reckons them -/
theorem word_1 (a : Nat) (ha : a < W64) : IntKind.u64.wrap (bits .xor .u64 (a : Int) ((a : Int) / 1073741824) * 13787848793156543929) = ((xs 30 a * 13787848793156543929 % W64 : Nat) : Int) := by
  have h := mixStep_u64 a 1073741824 13787848793156543929 ha
  rw [show (1073741824 : Nat) = 2 ^ 30 from rfl, step_xs] at h
  exact h
theorem word_2 (a : Nat) (ha : a < W64) : IntKind.u64.wrap (bits .xor .u64 (a : Int) ((a : Int) / 134217728) * 10723151780598845931) = ((xs 27 a * 10723151780598845931 % W64 : Nat) : Int) := by
  have h := mixStep_u64 a 134217728 10723151780598845931 ha
  rw [show (134217728 : Nat) = 2 ^ 27 from rfl, step_xs] at h
  exact h
theorem word_3 (a : Nat) (ha : a < W64) : bits .xor .u64 (a : Int) ((a : Int) / 2147483648) = ((xs 31 a : Nat) : Int) := by
  have h := xorShift_u64 a 2147483648 ha
  have e : a ^^^ a / 2147483648 = xs 31 a := by
    unfold xs
    rw [Nat.shiftRight_eq_div_pow]
  rw [e] at h
  exact h
theorem ret_word {k : IntKind} {a b : Int} {w v : World} {p : Addr} {x y : Value} (h : a = b) (g : x = y) (e : w = v) : Ending.returned (.int k a) = .returned (.int k b) ∧ w.setCell p x = v.setCell p y := by rw [h, g, e]; exact ⟨rfl, rfl⟩
theorem mod64 (x : Nat) : x % W64 < W64 := Nat.mod_lt _ (by decide)
/-- a state that lies in a cell of its own -/
structure LotAt (w : World) (b s : Nat) : Prop where
  c : w.cell? ⟨b, 0, none⟩ = some (.int .u64 s)
  f : w.frozen? ⟨b, 0, none⟩ = false
  lt : s < W64
theorem LotAt.set {w : World} {b s : Nat} (h : LotAt w b s) (t : Nat) (ht : t < W64) : LotAt (w.setCell ⟨b, 0, none⟩ (.int .u64 t)) b t :=
  ⟨World.cell?_setCell_same _ _ _ h.c, by rw [World.frozen?_setCell]; exact h.f, ht⟩
theorem LotAt.kept {w w' : World} {b s : Nat} {X : List Nat} (h : LotAt w b s) (hK : Kept X w w') (hb : b ∉ X) : LotAt w' b s :=
  ⟨hK.old h.c hb, by rw [hK.frozen (cell_lt h.c) hb]; exact h.f, h.lt⟩
theorem LotAt.blk {w : World} {b s : Nat} (h : LotAt w b s) : b < w.heap.size := cell_lt h.c

set_option maxRecDepth 100000 in
theorem prog_next (b s : Nat) (w : World) (h : LotAt w b s) :
    Calls Tryd.prog 54 #[.pointer (some ⟨b, 0, none⟩)] w fun e w' => e = .returned (.int .u64 (nextL s)) ∧ w' = w.setCell ⟨b, 0, none⟩ (.int .u64 (nextS s)) := by
  have c := h.c
  have f := h.f
  go_enter Tryd.func54, Tryd.ntmps54
  go_wp2
  go_ret
  rw [next_state s, word_1 _ (nextS_lt s), word_2 _ (mod64 _), word_3 _ (mod64 _)]
  exact ⟨rfl, rfl⟩
def stateOf (w : World) (b : Nat) : Nat := match w.cell? ⟨b, 0, none⟩ with | some (.int _ s) => s.toNat | _ => 0
theorem LotAt.state {w : World} {b s : Nat} (h : LotAt w b s) : stateOf w b = s := by
  unfold stateOf
  rw [h.c]
  exact Int.toNat_natCast s
end Go.Proofs.YtaihcceobnfmhaaDoor

namespace Go.Proofs.YtaihcceobnfmhaaDoor
open Go.RowKit

theorem lot_new (w : World) (s : Nat) (hs : s < W64) (t : TypeId) : LotAt (w.alloc (.cells #[.int .u64 s] t)) w.heap.size s :=
  ⟨cell_new _ _ _ _ _ _ rfl rfl, World.frozen?_alloc_at _ _ _ _ rfl, hs⟩
theorem prog_newLot (s : Nat) (hs : s < W64) (w : World) :
    Calls Tryd.prog 49 #[.int .u64 s] w fun e w' => ∃ b, e = .returned (.pointer (some ⟨b, 0, none⟩)) ∧ w.heap.size ≤ b ∧ LotAt w' b s ∧ Below w.heap.size w w' := by
  go_enter Tryd.func49, Tryd.ntmps49
  go_wp2
  go_ret
  exact ⟨_, rfl, Nat.le_refl _, lot_new w s hs _, (Below.refl _ _).alloc (Nat.le_refl _) _⟩

/-! numbers mixed into a seed -/
theorem ret_u64 {a b : Nat} (h : a = b) : Ending.returned (.int .u64 a) = .returned (.int .u64 b) := by rw [h]
set_option maxRecDepth 100000 in
set_option maxHeartbeats 1000000 in
theorem prog_mix (a : Option Addr) (b off n cap seed : Nat) (W : Nat → Int) (hs : seed < W64) (hn : n ≤ 1000) (w : World) (ha : Hid (0 < n → a = some ⟨b, off, none⟩)) (hb : Hid (0 < n → b < w.heap.size)) (hI : Ints w b off n W) :
    Calls Tryd.prog 34 #[.int .u64 seed, .slice a n cap] w fun e w' => e = .returned (.int .u64 (mixTo W seed n)) ∧ Below w.heap.size w w' := by
  go_enter Tryd.func34, Tryd.ntmps34
  go_wp2
  go_loopw [0, 9] (fun r i wr => ∃ k : Nat, k ≤ n ∧ i = .int .i64 k ∧ r = .int .u64 (mixTo W seed k) ∧ Below w.heap.size w wr) (fun _ i _ => n - (intOf i).toNat)
  case atStart => exact ⟨0, Nat.zero_le _, rfl, rfl, Below.refl _ _⟩
  case round =>
    obtain ⟨k, hk, rfl, rfl, hB⟩ := hrel
    by_cases hlt : k < n
    · have c0 := hI.below hB (hb.out (by omega)) k hlt
      obtain rfl := ha.out (by omega)
      have hm := mixTo_lt W seed hs k
      have hu := toU_lt (W k)
      have hx := xor_lt64 hm hu
      have e1 : IntKind.u64.wrap (W k) = ((toU (W k) : Nat) : Int) := by rw [toU_cast, IntKind.wrap_u64]
      have e2 : bits .xor .u64 ((mixTo W seed k : Nat) : Int) ((toU (W k) : Nat) : Int) = ((mixTo W seed k ^^^ toU (W k) : Nat) : Int) := bits_xor_u64_nat _ _ hm hu
      have N := prog_newLot (mixTo W seed k ^^^ toU (W k)) hx wr
      have E : Hid (nextL (mixTo W seed k ^^^ toU (W k)) = mixTo W seed (k + 1)) := rfl
      clear hI hm hu hx ha hb
      generalize mixTo W seed k ^^^ toU (W k) = y at *
      generalize toU (W k) = u at *
      generalize mixTo W seed k = m at *
      go_wp2_with fail
      refine N.mono ?_
      rintro e w1 ⟨l, rfl, hl, hL, hB1⟩
      have hB2 := hB.trans (hB1.mono hB.size)
      have hB3 := hB2.setCell (p := ⟨l, 0, none⟩) (Nat.le_trans hB.size hl) (.int .u64 (nextS y))
      go_wp2_with fail
      refine (prog_next l y w1 hL).mono ?_
      rintro e w2 ⟨rfl, rfl⟩
      go_wp2_with fail
      go_roundw
      case rel => exact ⟨k + 1, by omega, by go_num, by rw [E.out], hB3⟩
      case measure => simp [intOf]; omega
    · obtain rfl : n = k := by omega
      go_wp2_with fail
      go_ret
      exact ⟨rfl, hB⟩
/-! the closed fact -/
theorem first_lot : nextL 0 = 16294208416658607535 := by decide
end Go.Proofs.YtaihcceobnfmhaaDoor
