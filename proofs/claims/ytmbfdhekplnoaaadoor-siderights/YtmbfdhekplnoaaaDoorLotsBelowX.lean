/-
  A new draw of the program by its contracts; the closed fact.
  Next lots, as Go reckons them; the program's by its contract.
  The program's lots by their contracts: a new one, numbers mixed; the closed fact.
  Package bound by its contracts: which numbers are amounts, and which are owners.
  The program's lot below a number, by its contract.
-/
import Derived.Test.YtmbfdhekplnoaaaDoorProgFill
import Derived.Test.YtmbfdhekplnoaaaDoorU64InX
import Derived.Test.YtmbfdhekplnoaaaDoorRightMathX
import Derived.Laws.Bits64
import Derived.Test.YtmbfdhekplnoaaaDoorIntsOwn
import Derived.Test.YtmbfdhekplnoaaaDoorSentV
namespace Go.Proofs.YtmbfdhekplnoaaaDoor
open Go.RowKit Go.Deep

set_option maxRecDepth 100000 in
theorem new_hands (v : Value) (w : World) (R : Value → World → Prop)
    (ck : Calls Tryd.prog 57 #[v] w fun e w' => ∃ u y, e = .returned (.tuple #[.int .i64 0, .iface u y]) ∧ R (.iface u y) w') :
    Calls Tryd.prog 32 #[v] w fun e w' => ∃ u y, e = .returned (.tuple #[.pointer none, .iface u y]) ∧ R (.iface u y) w' := by
  go_enter Tryd.func32, Tryd.ntmps32
  go_wp2_with fail
  refine ck.mono ?_
  rintro e w1 ⟨u, y, rfl, hR⟩
  have HR := hide hR
  clear hR ck
  go_wp2
  go_ret2
  exact ⟨_, _, rfl, HR.out⟩

set_option maxRecDepth 100000 in
set_option maxHeartbeats 1000000 in
theorem new_fine (b off n cap : Nat) (W : Nat → Int) (w : World) (hI : Ints w b off n W) (hb : b < w.heap.size) (hW : Weights n W) (h0 : sumTo W n ≠ 0) :
    Calls Tryd.prog 32 #[.slice (some ⟨b, off, none⟩) n cap] w fun e w' => ∃ d c, e = .returned (.tuple #[.pointer (some ⟨d, 0, none⟩), .nilIface]) ∧ w.heap.size ≤ d ∧ DrawAt w' d c n (sumTo W n) (dend n W) ∧ Below w.heap.size w w' := by
  have T := together_fine b off n cap W w hI hW h0
  have F := fill_of b off n cap W w hI hb hW
  clear h0 hI
  go_enter Tryd.func32, Tryd.ntmps32
  go_wp2_with (first | (go_at_call 57; refine T.mono ?_; rintro e w1 ⟨rfl, rfl⟩) | (go_at_call 58; refine F.mono ?_; rintro e w1 ⟨c, rfl, hc, hcol, hB⟩))
  go_ret2
  have hs := hB.size
  refine ⟨_, _, rfl, hs, ⟨cell_new _ _ _ _ _ _ rfl rfl, cell_new _ _ _ _ _ _ rfl rfl, fun k hk => ?_, fun k hk => ?_⟩, hB.alloc hs _⟩
  · rw [World.cell?_alloc_lt _ _ _ (cell_lt (hcol k hk).1)]; exact (hcol k hk).1
  · rw [World.cell?_alloc_lt _ _ _ (cell_lt (hcol k hk).2)]; exact (hcol k hk).2

/-! the closed fact -/
def two : Nat → Int := fun i => if i = 0 then 1 else 3
end Go.Proofs.YtmbfdhekplnoaaaDoor

namespace Go.Proofs.YtmbfdhekplnoaaaDoor
open Go.RowKit

theorem next_state (s : Nat) : IntKind.u64.wrap ((s : Int) + 11400714819323198485) = ((nextS s : Nat) : Int) := by
  rw [IntKind.wrap_u64]
  unfold nextS
  show _ = (((s + 11400714819323198485) % 18446744073709551616 : Nat) : Int)
  omega
theorem div_word (a k : Nat) (ha : a < W64) : IntKind.u64.wrap ((a : Int).tdiv (k : Int)) = (a : Int) / (k : Int) := by
  rw [Int.tdiv_eq_ediv_of_nonneg (by omega), IntKind.wrap_u64]
  have h : a / k ≤ a := Nat.div_le_self _ _
  have e : (a : Int) / (k : Int) = ((a / k : Nat) : Int) := (Int.natCast_ediv a k).symm
  have ha' : a < 18446744073709551616 := ha
  rw [e]
  generalize a / k = m at *
  omega
theorem step_xs (k a C : Nat) : (a ^^^ a / 2 ^ k) * C % 18446744073709551616 = xs k a * C % W64 := by
  unfold xs
  rw [Nat.shiftRight_eq_div_pow]
theorem word_1 (a : Nat) (ha : a < W64) : IntKind.u64.wrap (bits .xor .u64 (a : Int) ((a : Int) / 1073741824) * 13787848793156543929) = ((xs 30 a * 13787848793156543929 % W64 : Nat) : Int) := by
  have h := mixStep_u64 a 1073741824 13787848793156543929 ha
  rw [show (1073741824 : Nat) = 2 ^ 30 from rfl, step_xs] at h
  exact h
theorem word_2 (a : Nat) (ha : a < W64) : IntKind.u64.wrap (bits .xor .u64 (a : Int) ((a : Int) / 134217728) * 10723151780598845931) = ((xs 27 a * 10723151780598845931 % W64 : Nat) : Int) := by
  have h := mixStep_u64 a 134217728 10723151780598845931 ha
  rw [show (134217728 : Nat) = 2 ^ 27 from rfl, step_xs] at h
  exact h
theorem word_3 (a : Nat) (ha : a < W64) : bits .xor .u64 (a : Int) ((a : Int) / 2147483648) = ((xs 31 a : Nat) : Int) := by
  have h := xorShift_u64 a 2147483648 ha
  have e : a ^^^ a / 2147483648 = xs 31 a := by
    unfold xs
    rw [Nat.shiftRight_eq_div_pow]
  rw [e] at h
  exact h
theorem mod64 (x : Nat) : x % W64 < W64 := Nat.mod_lt _ (by decide)
structure LotAt (w : World) (b s : Nat) : Prop where
  c : w.cell? ⟨b, 0, none⟩ = some (.int .u64 s)
  f : w.frozen? ⟨b, 0, none⟩ = false
  lt : s < W64
theorem LotAt.set {w : World} {b s : Nat} (h : LotAt w b s) (t : Nat) (ht : t < W64) : LotAt (w.setCell ⟨b, 0, none⟩ (.int .u64 t)) b t :=
  ⟨World.cell?_setCell_same _ _ _ h.c, by rw [World.frozen?_setCell]; exact h.f, ht⟩
set_option maxRecDepth 100000 in
theorem prog_next (b s : Nat) (w : World) (h : LotAt w b s) :
    Calls Tryd.prog 64 #[.pointer (some ⟨b, 0, none⟩)] w fun e w' => e = .returned (.int .u64 (nextL s)) ∧ w' = w.setCell ⟨b, 0, none⟩ (.int .u64 (nextS s)) := by
  have c := h.c
  have f := h.f
  go_enter Tryd.func64, Tryd.ntmps64
  go_wp2
  go_ret
  rw [next_state s, word_1 _ (nextS_lt s), word_2 _ (mod64 _), word_3 _ (mod64 _)]
  exact ⟨rfl, rfl⟩
def stateOf (w : World) (b : Nat) : Nat := match w.cell? ⟨b, 0, none⟩ with | some (.int _ s) => s.toNat | _ => 0
theorem LotAt.state {w : World} {b s : Nat} (h : LotAt w b s) : stateOf w b = s := by
  unfold stateOf
  rw [h.c]
  exact Int.toNat_natCast s
end Go.Proofs.YtmbfdhekplnoaaaDoor

namespace Go.Proofs.YtmbfdhekplnoaaaDoor
open Go.RowKit

theorem lot_new (w : World) (s : Nat) (hs : s < W64) (t : TypeId) : LotAt (w.alloc (.cells #[.int .u64 s] t)) w.heap.size s :=
  ⟨cell_new _ _ _ _ _ _ rfl rfl, World.frozen?_alloc_at _ _ _ _ rfl, hs⟩
theorem prog_newLot (s : Nat) (hs : s < W64) (w : World) :
    Calls Tryd.prog 59 #[.int .u64 s] w fun e w' => ∃ b, e = .returned (.pointer (some ⟨b, 0, none⟩)) ∧ w.heap.size ≤ b ∧ LotAt w' b s ∧ Below w.heap.size w w' := by
  go_enter Tryd.func59, Tryd.ntmps59
  go_wp2
  go_ret
  exact ⟨_, rfl, Nat.le_refl _, lot_new w s hs _, (Below.refl _ _).alloc (Nat.le_refl _) _⟩

/-! numbers mixed into a seed -/
set_option maxRecDepth 100000 in
set_option maxHeartbeats 1000000 in
theorem prog_mix (a : Option Addr) (b off n cap seed : Nat) (W : Nat → Int) (hs : seed < W64) (hn : n ≤ 1000) (w : World) (ha : Hid (0 < n → a = some ⟨b, off, none⟩)) (hb : Hid (0 < n → b < w.heap.size)) (hI : Ints w b off n W) :
    Calls Tryd.prog 34 #[.int .u64 seed, .slice a n cap] w fun e w' => e = .returned (.int .u64 (mixTo W seed n)) ∧ Below w.heap.size w w' := by
  go_enter Tryd.func34, Tryd.ntmps34
  go_wp2
  go_loopw [0, 9] (fun r i wr => ∃ k : Nat, k ≤ n ∧ i = .int .i64 k ∧ r = .int .u64 (mixTo W seed k) ∧ Below w.heap.size w wr) (fun _ i _ => n - (intOf i).toNat)
  case atStart => exact ⟨0, Nat.zero_le _, rfl, rfl, Below.refl _ _⟩
  case round =>
    obtain ⟨k, hk, rfl, rfl, hB⟩ := hrel
    by_cases hlt : k < n
    · have c0 := hI.below hB (hb.out (by omega)) k hlt
      obtain rfl := ha.out (by omega)
      have hm := mixTo_lt W seed hs k
      have hu := toU_lt (W k)
      have hx := xor_lt64 hm hu
      have e1 : IntKind.u64.wrap (W k) = ((toU (W k) : Nat) : Int) := by rw [toU_cast, IntKind.wrap_u64]
      have e2 : bits .xor .u64 ((mixTo W seed k : Nat) : Int) ((toU (W k) : Nat) : Int) = ((mixTo W seed k ^^^ toU (W k) : Nat) : Int) := bits_xor_u64_nat _ _ hm hu
      have N := prog_newLot (mixTo W seed k ^^^ toU (W k)) hx wr
      have E : Hid (nextL (mixTo W seed k ^^^ toU (W k)) = mixTo W seed (k + 1)) := rfl
      clear hI hm hu hx ha hb
      generalize mixTo W seed k ^^^ toU (W k) = y at *
      generalize toU (W k) = u at *
      generalize mixTo W seed k = m at *
      go_wp2_with fail
      refine N.mono ?_
      rintro e w1 ⟨l, rfl, hl, hL, hB1⟩
      have hB2 := hB.trans (hB1.mono hB.size)
      have hB3 := hB2.setCell (p := ⟨l, 0, none⟩) (Nat.le_trans hB.size hl) (.int .u64 (nextS y))
      go_wp2_with fail
      refine (prog_next l y w1 hL).mono ?_
      rintro e w2 ⟨rfl, rfl⟩
      go_wp2_with fail
      go_roundw
      case rel => exact ⟨k + 1, by omega, by go_num, by rw [E.out], hB3⟩
      case measure => simp [intOf]; omega
    · obtain rfl : n = k := by omega
      go_wp2_with fail
      go_ret
      exact ⟨rfl, hB⟩
/-! the closed fact -/
end Go.Proofs.YtmbfdhekplnoaaaDoor

namespace Go.Proofs.YtmbfdhekplnoaaaDoor
open Go.RowKit

theorem some_yes (n : Int) (h0 : 1 ≤ n) (h1 : n ≤ 1125899906842624) (w : World) :
    Calls Tryd.prog 77 #[.int .i64 n] w fun e w' => e = .returned (.bool true) ∧ w' = w := by
  go_enter Tryd.func77, Tryd.ntmps77
  go_wp2
  go_ret
  exact ⟨rfl, rfl⟩
theorem some_no (n : Int) (h : ¬ (1 ≤ n ∧ n ≤ 1125899906842624)) (w : World) :
    Calls Tryd.prog 77 #[.int .i64 n] w fun e w' => e = .returned (.bool false) ∧ w' = w := by
  by_cases h0 : 1 ≤ n
  · have h1 : ¬ n ≤ 1125899906842624 := by omega
    clear h
    go_enter Tryd.func77, Tryd.ntmps77
    go_wp2
    go_ret
    exact ⟨rfl, rfl⟩
  · clear h
    go_enter Tryd.func77, Tryd.ntmps77
    go_wp2
    go_ret
    exact ⟨rfl, rfl⟩
end Go.Proofs.YtmbfdhekplnoaaaDoor

namespace Go.Proofs.YtmbfdhekplnoaaaDoor
open Go.RowKit

theorem below_no (b : Nat) (n : Int) (A1 : Addr) (w : World) (hE : w.cell? ⟨1, 0, none⟩ = some (sent A1)) (hn : ¬ (1 ≤ n ∧ n ≤ 1125899906842624)) :
    Calls Tryd.prog 60 #[.pointer (some ⟨b, 0, none⟩), .int .i64 n] w fun e w' => e = .returned (.tuple #[.int .i64 0, sent A1]) ∧ ∃ m, w' = w.drewN m := by
  have S := some_no n hn
  clear hn
  go_enter Tryd.func60, Tryd.ntmps60
  go_wp2_with (go_at_call 77; refine (S _).mono ?_; rintro e w' ⟨rfl, rfl⟩)
  go_quiet (fail)
  go_wp2
  go_ret2
  exact ⟨rfl, _, rfl⟩

set_option maxRecDepth 100000 in
set_option maxHeartbeats 1000000 in
theorem below_yes (b s n : Nat) (w : World) (h : LotAt w b s) (n1 : 1 ≤ n) (nM : n ≤ 1125899906842624) :
    Calls Tryd.prog 60 #[.pointer (some ⟨b, 0, none⟩), .int .i64 n] w fun e w' => ∃ v t, e = .returned (.tuple #[.int .i64 (v : Nat), .nilIface]) ∧ Bel n s v t ∧ LotAt w' b t ∧ Kept [b] w w' := by
  have S := some_yes n (by omega) (by omega)
  obtain ⟨N', M, Q, hN, hM, m1, m2, q0, q1, q2, q3⟩ : ∃ N' M Q : Int, (n : Int) = N' ∧ ((most n : Nat) : Int) = M ∧ 1 ≤ N' ∧ N' ≤ 1125899906842624 ∧ 9223372036854775808 % N' = Q ∧ 0 ≤ Q ∧ Q ≤ 9223372036854775808 ∧ 9223372036854775808 - Q = M := by
    have hm := most_rest n
    have e : (9223372036854775808 : Int) % (n : Int) = ((9223372036854775808 % n : Nat) : Int) := rfl
    exact ⟨_, _, _, rfl, rfl, by omega, by omega, e, by omega, by omega, by omega⟩
  have m3 : 0 ≤ M := by omega
  have m4 : M ≤ 9223372036854775808 := by omega
  have step : ∀ q, Hid (∃ X Z R : Int, (nextL q : Int) = X ∧ ((nextL q / 2 : Nat) : Int) = Z ∧ ((nextL q / 2 % n : Nat) : Int) = R ∧ 0 ≤ Z ∧ Z ≤ 9223372036854775807 ∧ 0 ≤ R ∧ R ≤ Z ∧ R < N' ∧ X / 2 = Z ∧ Z % N' = R ∧ (Z < M ↔ nextL q / 2 < most n)) := fun q => by
    have hl := nextL_lt q
    have hm := Nat.mod_le (nextL q / 2) n
    have hn := Nat.mod_lt (nextL q / 2) (show 0 < n by omega)
    have hb : nextL q < 18446744073709551616 := hl
    have ht : ((nextL q / 2 : Nat) : Int) % N' = ((nextL q / 2 % n : Nat) : Int) := by rw [← hN]; exact (Int.natCast_emod _ _).symm
    exact ⟨_, _, _, rfl, rfl, rfl, by omega, by omega, by omega, by omega, by omega, by omega, ht, by omega⟩
  obtain ⟨lag, hlag'⟩ := lag_ex
  have hlag := hide hlag'
  clear hlag'
  go_enter Tryd.func60, Tryd.ntmps60
  rw [hN]
  rw [hN] at S
  have N1 := hide n1
  have NM := hide nM
  have N := prog_next b s w h
  have hq' := h.set (nextS s) (nextS_lt s)
  have hK' := (Kept.refl [b] w).setCell (p := ⟨b, 0, none⟩) (by simp) (.int .u64 (nextS s))
  have hs := hide h.lt
  obtain ⟨X, Z, R, hX, hZ, hR', z0, z1, r0, r1, r2, w2, ht, hmt⟩ := (step s).out
  rw [hX] at N
  have HZ := hide hZ
  clear hN hM n1 nM h hX hZ hR' r0 r1 r2 ht hmt
  go_wp2_with (first | (go_at_call 77; refine (S w).mono ?_; rintro e w0 ⟨rfl, rfl⟩) | (go_at_call 64; refine N.mono ?_; rintro e w1 ⟨rfl, rfl⟩))
  go_loopw [8] (fun r wr => ∃ (q : Nat) (Z : Int), r = .int .u64 Z ∧ Hid (((nextL q / 2 : Nat) : Int) = Z) ∧ LotAt wr b (nextS q) ∧ Kept [b] w0 wr ∧ Hid (q < W64 ∧ ∀ v t, Bel n q v t → Bel n s v t)) (fun _ wr => lag (stateOf wr b))
  case atStart => exact ⟨s, Z, by rw [w2], HZ, hq', hK', hs.out, fun _ _ h => h⟩
  case round =>
    obtain ⟨q, Z, rfl, HZ', hL, hK, hR⟩ := hrel
    clear hq' hK' HZ N S z0 z1 w2 hs q0 q1 q2 q3
    obtain ⟨X, _, R, hX, rfl, hR', z0, z1, r0, r1, r2, w2, ht, hmt⟩ := (step q).out
    rw [HZ'.out] at z0 z1 r1 w2 ht hmt
    clear HZ'
    by_cases hlt : nextL q / 2 < most n
    · have hB : Hid (∃ v : Nat, Bel n s v (nextS q) ∧ (v : Int) = R) := ⟨_, hR.out.2 _ _ (Bel.take q hlt), hR'⟩
      have g := hmt.2 hlt
      clear hmt hR hlt hR' hX step hlag N1 NM
      go_wp2
      go_ret2
      obtain ⟨v, hv, hR⟩ := hB.out
      exact ⟨v, nextS q, ret_pair hR.symm _, hv, hL, hK⟩
    · have hR2 : Hid (nextS q < W64 ∧ ∀ v t, Bel n (nextS q) v t → Bel n s v t) := ⟨nextS_lt q, fun v t h => hR.out.2 v t (Bel.more q v t hlt h)⟩
      have g : ¬ Z < M := fun g => hlt (hmt.1 g)
      have hf := hide (falls hR.out.1 N1.out (by have := NM.out; omega) hlt)
      have N := prog_next b (nextS q) wr hL
      have hL2 := hL.set (nextS (nextS q)) (nextS_lt _)
      have hK2 := hK.setCell (p := ⟨b, 0, none⟩) (by simp) (.int .u64 (nextS (nextS q)))
      have hm : Hid (lag (stateOf (wr.setCell ⟨b, 0, none⟩ (.int .u64 (nextS (nextS q)))) b) < lag (stateOf wr b)) := by
        rw [hL.state, hL2.state, hlag.out, hlag.out, prevS_next _ hR.out.1, prevS_next _ (nextS_lt q)]
        exact hf.out
      clear hf hlag
      clear hmt hR hlt hR' hX z0 z1 r0 r1 r2 w2 ht
      obtain ⟨X', Z', R', hX, hZ, hR', z0', z1', r0, r1, r2, w2', ht, hmt⟩ := (step (nextS q)).out
      rw [hX] at N
      have HZ := hide hZ
      clear hmt hR' hZ hX r0 r1 r2 ht step
      go_wp2_with (go_at_call 64; refine N.mono ?_; rintro e w1 ⟨rfl, rfl⟩)
      go_roundw
      case rel => exact ⟨nextS q, Z', by rw [w2'], HZ, hL2, hK2, hR2⟩
      case measure => exact hm.out
end Go.Proofs.YtmbfdhekplnoaaaDoor
