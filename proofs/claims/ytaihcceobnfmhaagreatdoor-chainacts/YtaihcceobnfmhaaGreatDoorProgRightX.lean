/-
  A new draw of the program by its contracts; the closed fact.
  Next lots, as Go reckons them; the program's by its contract.
  The program's lots by their contracts: a new one, numbers mixed; the closed fact.
  The program's lot below a number, by its contract.
  The program's rights by their contracts: who bakes a round, who the rounds of a level; a picture of nothing.
-/
import Derived.Test.YtaihcceobnfmhaaGreatDoorProgFill
import Derived.Test.YtaihcceobnfmhaaGreatDoorProgPurseX
import Derived.Test.YtaihcceobnfmhaaGreatDoorAidX
import Derived.Laws.Bits64
import Derived.Test.YtaihcceobnfmhaaGreatDoorIntsOwn
import Derived.Test.YtaihcceobnfmhaaGreatDoorFillAtX
namespace Go.Proofs.YtaihcceobnfmhaaGreatDoor
open Go.RowKit Go.Deep

set_option maxRecDepth 100000 in
/-- New hands the error of the weights on, and no draw. -/
theorem new_hands (v : Value) (w : World) (R : Value → World → Prop)
    (ck : Calls Tryz.prog 94 #[v] w fun e w' => ∃ u y, e = .returned (.tuple #[.int .i64 0, .iface u y]) ∧ R (.iface u y) w') :
    Calls Tryz.prog 44 #[v] w fun e w' => ∃ u y, e = .returned (.tuple #[.pointer none, .iface u y]) ∧ R (.iface u y) w' := by
  go_enter Tryz.func44, Tryz.ntmps44
  go_wp2_with fail
  refine ck.mono ?_
  rintro e w1 ⟨u, y, rfl, hR⟩
  have HR := hide hR
  clear hR ck
  go_wp2
  go_ret2
  exact ⟨_, _, rfl, HR.out⟩

set_option maxRecDepth 100000 in
set_option maxHeartbeats 1000000 in
theorem new_fine (b off n cap : Nat) (W : Nat → Int) (w : World) (hI : Ints w b off n W) (hb : b < w.heap.size) (hW : Weights n W) (h0 : sumTo W n ≠ 0) :
    Calls Tryz.prog 44 #[.slice (some ⟨b, off, none⟩) n cap] w fun e w' => ∃ d c, e = .returned (.tuple #[.pointer (some ⟨d, 0, none⟩), .nilIface]) ∧ w.heap.size ≤ d ∧ DrawAt w' d c n (sumTo W n) (dend n W) ∧ Below w.heap.size w w' := by
  have T := together_fine b off n cap W w hI hW h0
  have F := fill_of b off n cap W w hI hb hW
  clear h0 hI
  go_enter Tryz.func44, Tryz.ntmps44
  go_wp2_with (first | (go_at_call 94; refine T.mono ?_; rintro e w1 ⟨rfl, rfl⟩) | (go_at_call 95; refine F.mono ?_; rintro e w1 ⟨c, rfl, hc, hcol, hB⟩))
  go_ret2
  have hs := hB.size
  refine ⟨_, _, rfl, hs, ⟨cell_new _ _ _ _ _ _ rfl rfl, cell_new _ _ _ _ _ _ rfl rfl, fun k hk => ?_, fun k hk => ?_⟩, hB.alloc hs _⟩
  · rw [World.cell?_alloc_lt _ _ _ (cell_lt (hcol k hk).1)]; exact (hcol k hk).1
  · rw [World.cell?_alloc_lt _ _ _ (cell_lt (hcol k hk).2)]; exact (hcol k hk).2

/-! the closed fact -/
def two : Nat → Int := fun i => if i = 0 then 1 else 3
theorem two_weights : Weights 2 two := ⟨by omega, by omega, fun k hk => by unfold two; split <;> omega⟩
theorem two_sum : sumTo two 2 = 4 := by decide
theorem two_pick : (dend 2 two).pick 0 2 = 1 := by decide
theorem two_ints (w : World) (t : TypeId) : Ints (w.alloc (.cells #[.int .i64 1, .int .i64 3] t)) w.heap.size 0 2 two := fun i hi => by
  have : i = 0 ∨ i = 1 := by omega
  rcases this with rfl | rfl
  · exact cell_new _ _ _ _ _ _ rfl rfl
  · exact cell_new _ _ _ _ _ _ rfl rfl
end Go.Proofs.YtaihcceobnfmhaaGreatDoor

namespace Go.Proofs.YtaihcceobnfmhaaGreatDoor
open Go.RowKit

theorem next_state (s : Nat) : IntKind.u64.wrap ((s : Int) + 11400714819323198485) = ((nextS s : Nat) : Int) := by
  rw [IntKind.wrap_u64]
  unfold nextS
  show _ = (((s + 11400714819323198485) % 18446744073709551616 : Nat) : Int)
  omega
theorem div_word (a k : Nat) (ha : a < W64) : IntKind.u64.wrap ((a : Int).tdiv (k : Int)) = (a : Int) / (k : Int) := by
  rw [Int.tdiv_eq_ediv_of_nonneg (by omega), IntKind.wrap_u64]
  have h : a / k ≤ a := Nat.div_le_self _ _
  have e : (a : Int) / (k : Int) = ((a / k : Nat) : Int) := (Int.natCast_ediv a k).symm
  have ha' : a < 18446744073709551616 := ha
  rw [e]
  generalize a / k = m at *
  omega
theorem step_xs (k a C : Nat) : (a ^^^ a / 2 ^ k) * C % 18446744073709551616 = xs k a * C % W64 := by
  unfold xs
  rw [Nat.shiftRight_eq_div_pow]
/-- what the steps make of a state, as Go reckons them -/
theorem word_1 (a : Nat) (ha : a < W64) : IntKind.u64.wrap (bits .xor .u64 (a : Int) ((a : Int) / 1073741824) * 13787848793156543929) = ((xs 30 a * 13787848793156543929 % W64 : Nat) : Int) := by
  have h := mixStep_u64 a 1073741824 13787848793156543929 ha
  rw [show (1073741824 : Nat) = 2 ^ 30 from rfl, step_xs] at h
  exact h
theorem word_2 (a : Nat) (ha : a < W64) : IntKind.u64.wrap (bits .xor .u64 (a : Int) ((a : Int) / 134217728) * 10723151780598845931) = ((xs 27 a * 10723151780598845931 % W64 : Nat) : Int) := by
  have h := mixStep_u64 a 134217728 10723151780598845931 ha
  rw [show (134217728 : Nat) = 2 ^ 27 from rfl, step_xs] at h
  exact h
theorem word_3 (a : Nat) (ha : a < W64) : bits .xor .u64 (a : Int) ((a : Int) / 2147483648) = ((xs 31 a : Nat) : Int) := by
  have h := xorShift_u64 a 2147483648 ha
  have e : a ^^^ a / 2147483648 = xs 31 a := by
    unfold xs
    rw [Nat.shiftRight_eq_div_pow]
  rw [e] at h
  exact h
theorem ret_word {k : IntKind} {a b : Int} {w v : World} {p : Addr} {x y : Value} (h : a = b) (g : x = y) (e : w = v) : Ending.returned (.int k a) = .returned (.int k b) ∧ w.setCell p x = v.setCell p y := by rw [h, g, e]; exact ⟨rfl, rfl⟩
theorem mod64 (x : Nat) : x % W64 < W64 := Nat.mod_lt _ (by decide)
/-- a state that lies in a cell of its own -/
structure LotAt (w : World) (b s : Nat) : Prop where
  c : w.cell? ⟨b, 0, none⟩ = some (.int .u64 s)
  f : w.frozen? ⟨b, 0, none⟩ = false
  lt : s < W64
theorem LotAt.set {w : World} {b s : Nat} (h : LotAt w b s) (t : Nat) (ht : t < W64) : LotAt (w.setCell ⟨b, 0, none⟩ (.int .u64 t)) b t :=
  ⟨World.cell?_setCell_same _ _ _ h.c, by rw [World.frozen?_setCell]; exact h.f, ht⟩
theorem LotAt.kept {w w' : World} {b s : Nat} {X : List Nat} (h : LotAt w b s) (hK : Kept X w w') (hb : b ∉ X) : LotAt w' b s :=
  ⟨hK.old h.c hb, by rw [hK.frozen (cell_lt h.c) hb]; exact h.f, h.lt⟩
theorem LotAt.blk {w : World} {b s : Nat} (h : LotAt w b s) : b < w.heap.size := cell_lt h.c

set_option maxRecDepth 100000 in
theorem prog_next (b s : Nat) (w : World) (h : LotAt w b s) :
    Calls Tryz.prog 101 #[.pointer (some ⟨b, 0, none⟩)] w fun e w' => e = .returned (.int .u64 (nextL s)) ∧ w' = w.setCell ⟨b, 0, none⟩ (.int .u64 (nextS s)) := by
  have c := h.c
  have f := h.f
  go_enter Tryz.func101, Tryz.ntmps101
  go_wp2
  go_ret
  rw [next_state s, word_1 _ (nextS_lt s), word_2 _ (mod64 _), word_3 _ (mod64 _)]
  exact ⟨rfl, rfl⟩
def stateOf (w : World) (b : Nat) : Nat := match w.cell? ⟨b, 0, none⟩ with | some (.int _ s) => s.toNat | _ => 0
theorem LotAt.state {w : World} {b s : Nat} (h : LotAt w b s) : stateOf w b = s := by
  unfold stateOf
  rw [h.c]
  exact Int.toNat_natCast s
end Go.Proofs.YtaihcceobnfmhaaGreatDoor

namespace Go.Proofs.YtaihcceobnfmhaaGreatDoor
open Go.RowKit

theorem lot_new (w : World) (s : Nat) (hs : s < W64) (t : TypeId) : LotAt (w.alloc (.cells #[.int .u64 s] t)) w.heap.size s :=
  ⟨cell_new _ _ _ _ _ _ rfl rfl, World.frozen?_alloc_at _ _ _ _ rfl, hs⟩
theorem prog_newLot (s : Nat) (hs : s < W64) (w : World) :
    Calls Tryz.prog 96 #[.int .u64 s] w fun e w' => ∃ b, e = .returned (.pointer (some ⟨b, 0, none⟩)) ∧ w.heap.size ≤ b ∧ LotAt w' b s ∧ Below w.heap.size w w' := by
  go_enter Tryz.func96, Tryz.ntmps96
  go_wp2
  go_ret
  exact ⟨_, rfl, Nat.le_refl _, lot_new w s hs _, (Below.refl _ _).alloc (Nat.le_refl _) _⟩

/-! numbers mixed into a seed -/
theorem ret_u64 {a b : Nat} (h : a = b) : Ending.returned (.int .u64 a) = .returned (.int .u64 b) := by rw [h]
set_option maxRecDepth 100000 in
set_option maxHeartbeats 1000000 in
theorem prog_mix (a : Option Addr) (b off n cap seed : Nat) (W : Nat → Int) (hs : seed < W64) (hn : n ≤ 1000) (w : World) (ha : Hid (0 < n → a = some ⟨b, off, none⟩)) (hb : Hid (0 < n → b < w.heap.size)) (hI : Ints w b off n W) :
    Calls Tryz.prog 46 #[.int .u64 seed, .slice a n cap] w fun e w' => e = .returned (.int .u64 (mixTo W seed n)) ∧ Below w.heap.size w w' := by
  go_enter Tryz.func46, Tryz.ntmps46
  go_wp2
  go_loopw [0, 9] (fun r i wr => ∃ k : Nat, k ≤ n ∧ i = .int .i64 k ∧ r = .int .u64 (mixTo W seed k) ∧ Below w.heap.size w wr) (fun _ i _ => n - (intOf i).toNat)
  case atStart => exact ⟨0, Nat.zero_le _, rfl, rfl, Below.refl _ _⟩
  case round =>
    obtain ⟨k, hk, rfl, rfl, hB⟩ := hrel
    by_cases hlt : k < n
    · have c0 := hI.below hB (hb.out (by omega)) k hlt
      obtain rfl := ha.out (by omega)
      have hm := mixTo_lt W seed hs k
      have hu := toU_lt (W k)
      have hx := xor_lt64 hm hu
      have e1 : IntKind.u64.wrap (W k) = ((toU (W k) : Nat) : Int) := by rw [toU_cast, IntKind.wrap_u64]
      have e2 : bits .xor .u64 ((mixTo W seed k : Nat) : Int) ((toU (W k) : Nat) : Int) = ((mixTo W seed k ^^^ toU (W k) : Nat) : Int) := bits_xor_u64_nat _ _ hm hu
      have N := prog_newLot (mixTo W seed k ^^^ toU (W k)) hx wr
      have E : Hid (nextL (mixTo W seed k ^^^ toU (W k)) = mixTo W seed (k + 1)) := rfl
      clear hI hm hu hx ha hb
      generalize mixTo W seed k ^^^ toU (W k) = y at *
      generalize toU (W k) = u at *
      generalize mixTo W seed k = m at *
      go_wp2_with fail
      refine N.mono ?_
      rintro e w1 ⟨l, rfl, hl, hL, hB1⟩
      have hB2 := hB.trans (hB1.mono hB.size)
      have hB3 := hB2.setCell (p := ⟨l, 0, none⟩) (Nat.le_trans hB.size hl) (.int .u64 (nextS y))
      go_wp2_with fail
      refine (prog_next l y w1 hL).mono ?_
      rintro e w2 ⟨rfl, rfl⟩
      go_wp2_with fail
      go_roundw
      case rel => exact ⟨k + 1, by omega, by go_num, by rw [E.out], hB3⟩
      case measure => simp [intOf]; omega
    · obtain rfl : n = k := by omega
      go_wp2_with fail
      go_ret
      exact ⟨rfl, hB⟩
/-! the closed fact -/
theorem first_lot : nextL 0 = 16294208416658607535 := by decide
end Go.Proofs.YtaihcceobnfmhaaGreatDoor

namespace Go.Proofs.YtaihcceobnfmhaaGreatDoor
open Go.RowKit

theorem below_no (b : Nat) (n : Int) (A1 : Addr) (w : World) (hE : w.cell? ⟨0, 0, none⟩ = some (sent A1)) (hn : ¬ (1 ≤ n ∧ n ≤ 1125899906842624)) :
    Calls Tryz.prog 97 #[.pointer (some ⟨b, 0, none⟩), .int .i64 n] w fun e w' => e = .returned (.tuple #[.int .i64 0, sent A1]) ∧ ∃ m, w' = w.drewN m := by
  have S := some_no n hn
  clear hn
  go_enter Tryz.func97, Tryz.ntmps97
  go_wp2_with (go_at_call 150; refine (S _).mono ?_; rintro e w' ⟨rfl, rfl⟩)
  go_quiet (fail)
  go_wp2
  go_ret2
  exact ⟨rfl, _, rfl⟩

set_option maxRecDepth 100000 in
set_option maxHeartbeats 1000000 in
theorem below_yes (b s n : Nat) (w : World) (h : LotAt w b s) (n1 : 1 ≤ n) (nM : n ≤ 1125899906842624) :
    Calls Tryz.prog 97 #[.pointer (some ⟨b, 0, none⟩), .int .i64 n] w fun e w' => ∃ v t, e = .returned (.tuple #[.int .i64 (v : Nat), .nilIface]) ∧ Bel n s v t ∧ LotAt w' b t ∧ Kept [b] w w' := by
  have S := some_yes n (by omega) (by omega)
  obtain ⟨N', M, Q, hN, hM, m1, m2, q0, q1, q2, q3⟩ : ∃ N' M Q : Int, (n : Int) = N' ∧ ((most n : Nat) : Int) = M ∧ 1 ≤ N' ∧ N' ≤ 1125899906842624 ∧ 9223372036854775808 % N' = Q ∧ 0 ≤ Q ∧ Q ≤ 9223372036854775808 ∧ 9223372036854775808 - Q = M := by
    have hm := most_rest n
    have e : (9223372036854775808 : Int) % (n : Int) = ((9223372036854775808 % n : Nat) : Int) := rfl
    exact ⟨_, _, _, rfl, rfl, by omega, by omega, e, by omega, by omega, by omega⟩
  have m3 : 0 ≤ M := by omega
  have m4 : M ≤ 9223372036854775808 := by omega
  have step : ∀ q, Hid (∃ X Z R : Int, (nextL q : Int) = X ∧ ((nextL q / 2 : Nat) : Int) = Z ∧ ((nextL q / 2 % n : Nat) : Int) = R ∧ 0 ≤ Z ∧ Z ≤ 9223372036854775807 ∧ 0 ≤ R ∧ R ≤ Z ∧ R < N' ∧ X / 2 = Z ∧ Z % N' = R ∧ (Z < M ↔ nextL q / 2 < most n)) := fun q => by
    have hl := nextL_lt q
    have hm := Nat.mod_le (nextL q / 2) n
    have hn := Nat.mod_lt (nextL q / 2) (show 0 < n by omega)
    have hb : nextL q < 18446744073709551616 := hl
    have ht : ((nextL q / 2 : Nat) : Int) % N' = ((nextL q / 2 % n : Nat) : Int) := by rw [← hN]; exact (Int.natCast_emod _ _).symm
    exact ⟨_, _, _, rfl, rfl, rfl, by omega, by omega, by omega, by omega, by omega, by omega, ht, by omega⟩
  obtain ⟨lag, hlag'⟩ := lag_ex
  have hlag := hide hlag'
  clear hlag'
  go_enter Tryz.func97, Tryz.ntmps97
  rw [hN]
  rw [hN] at S
  have N1 := hide n1
  have NM := hide nM
  have N := prog_next b s w h
  have hq' := h.set (nextS s) (nextS_lt s)
  have hK' := (Kept.refl [b] w).setCell (p := ⟨b, 0, none⟩) (by simp) (.int .u64 (nextS s))
  have hs := hide h.lt
  obtain ⟨X, Z, R, hX, hZ, hR', z0, z1, r0, r1, r2, w2, ht, hmt⟩ := (step s).out
  rw [hX] at N
  have HZ := hide hZ
  clear hN hM n1 nM h hX hZ hR' r0 r1 r2 ht hmt
  go_wp2_with (first | (go_at_call 150; refine (S w).mono ?_; rintro e w0 ⟨rfl, rfl⟩) | (go_at_call 101; refine N.mono ?_; rintro e w1 ⟨rfl, rfl⟩))
  go_loopw [8] (fun r wr => ∃ (q : Nat) (Z : Int), r = .int .u64 Z ∧ Hid (((nextL q / 2 : Nat) : Int) = Z) ∧ LotAt wr b (nextS q) ∧ Kept [b] w0 wr ∧ Hid (q < W64 ∧ ∀ v t, Bel n q v t → Bel n s v t)) (fun _ wr => lag (stateOf wr b))
  case atStart => exact ⟨s, Z, by rw [w2], HZ, hq', hK', hs.out, fun _ _ h => h⟩
  case round =>
    obtain ⟨q, Z, rfl, HZ', hL, hK, hR⟩ := hrel
    clear hq' hK' HZ N S z0 z1 w2 hs q0 q1 q2 q3
    obtain ⟨X, _, R, hX, rfl, hR', z0, z1, r0, r1, r2, w2, ht, hmt⟩ := (step q).out
    rw [HZ'.out] at z0 z1 r1 w2 ht hmt
    clear HZ'
    by_cases hlt : nextL q / 2 < most n
    · have hB : Hid (∃ v : Nat, Bel n s v (nextS q) ∧ (v : Int) = R) := ⟨_, hR.out.2 _ _ (Bel.take q hlt), hR'⟩
      have g := hmt.2 hlt
      clear hmt hR hlt hR' hX step hlag N1 NM
      go_wp2
      go_ret2
      obtain ⟨v, hv, hR⟩ := hB.out
      exact ⟨v, nextS q, ret_pair hR.symm _, hv, hL, hK⟩
    · have hR2 : Hid (nextS q < W64 ∧ ∀ v t, Bel n (nextS q) v t → Bel n s v t) := ⟨nextS_lt q, fun v t h => hR.out.2 v t (Bel.more q v t hlt h)⟩
      have g : ¬ Z < M := fun g => hlt (hmt.1 g)
      have hf := hide (falls hR.out.1 N1.out (by have := NM.out; omega) hlt)
      have N := prog_next b (nextS q) wr hL
      have hL2 := hL.set (nextS (nextS q)) (nextS_lt _)
      have hK2 := hK.setCell (p := ⟨b, 0, none⟩) (by simp) (.int .u64 (nextS (nextS q)))
      have hm : Hid (lag (stateOf (wr.setCell ⟨b, 0, none⟩ (.int .u64 (nextS (nextS q)))) b) < lag (stateOf wr b)) := by
        rw [hL.state, hL2.state, hlag.out, hlag.out, prevS_next _ hR.out.1, prevS_next _ (nextS_lt q)]
        exact hf.out
      clear hf hlag
      clear hmt hR hlt hR' hX z0 z1 r0 r1 r2 w2 ht
      obtain ⟨X', Z', R', hX, hZ, hR', z0', z1', r0, r1, r2, w2', ht, hmt⟩ := (step (nextS q)).out
      rw [hX] at N
      have HZ := hide hZ
      clear hmt hR' hZ hX r0 r1 r2 ht step
      go_wp2_with (go_at_call 101; refine N.mono ?_; rintro e w1 ⟨rfl, rfl⟩)
      go_roundw
      case rel => exact ⟨nextS q, Z', by rw [w2'], HZ, hL2, hK2, hR2⟩
      case measure => exact hm.out
end Go.Proofs.YtaihcceobnfmhaaGreatDoor

namespace Go.Proofs.YtaihcceobnfmhaaGreatDoor
open Go.RowKit Go.Deep

/-! times -/
theorem rcy_yes (c : Int) (h0 : 0 ≤ c) (h1 : c ≤ 1048576) (w : World) :
    Calls Tryz.prog 93 #[.int .i64 c] w fun e w' => e = .returned (.bool true) ∧ w' = w := by
  go_enter Tryz.func93, Tryz.ntmps93
  go_wp2
  go_ret
  exact ⟨rfl, rfl⟩
theorem rcy_no (c : Int) (h : ¬ (0 ≤ c ∧ c ≤ 1048576)) (w : World) :
    Calls Tryz.prog 93 #[.int .i64 c] w fun e w' => e = .returned (.bool false) ∧ w' = w := by
  by_cases h0 : 0 ≤ c
  · have h3 : ¬ c ≤ 1048576 := by omega
    clear h
    go_enter Tryz.func93, Tryz.ntmps93
    go_wp2
    go_ret
    exact ⟨rfl, rfl⟩
  · clear h
    go_enter Tryz.func93, Tryz.ntmps93
    go_wp2
    go_ret
    exact ⟨rfl, rfl⟩
theorem time_yes (c l : Int) (c0 : 0 ≤ c) (c1 : c ≤ 1048576) (l0 : 0 ≤ l) (l1 : l ≤ 4194304) (w : World) :
    Calls Tryz.prog 42 #[.int .i64 c, .int .i64 l] w fun e w' => e = .returned (.bool true) ∧ w' = w := by
  have I := rcy_yes c c0 c1
  go_enter Tryz.func42, Tryz.ntmps42
  go_wp2_with (go_at_call 93; refine (I _).mono ?_; rintro e w' ⟨rfl, rfl⟩)
  go_ret
  exact ⟨rfl, rfl⟩
theorem time_no (c l : Int) (h : ¬ ((0 ≤ c ∧ c ≤ 1048576) ∧ 0 ≤ l ∧ l ≤ 4194304)) (w : World) :
    Calls Tryz.prog 42 #[.int .i64 c, .int .i64 l] w fun e w' => e = .returned (.bool false) ∧ w' = w := by
  by_cases hc : 0 ≤ c ∧ c ≤ 1048576
  · have I := rcy_yes c hc.1 hc.2
    by_cases l0 : 0 ≤ l
    · have l1 : ¬ l ≤ 4194304 := by omega
      clear h hc
      go_enter Tryz.func42, Tryz.ntmps42
      go_wp2_with (go_at_call 93; refine (I _).mono ?_; rintro e w' ⟨rfl, rfl⟩)
      go_ret
      exact ⟨by simp; omega, rfl⟩
    · clear h hc
      go_enter Tryz.func42, Tryz.ntmps42
      go_wp2_with (go_at_call 93; refine (I _).mono ?_; rintro e w' ⟨rfl, rfl⟩)
      go_ret
      exact ⟨rfl, rfl⟩
  · have I := rcy_no c hc
    clear h hc
    go_enter Tryz.func42, Tryz.ntmps42
    go_wp2_with (go_at_call 93; refine (I _).mono ?_; rintro e w' ⟨rfl, rfl⟩)
    go_ret
    exact ⟨rfl, rfl⟩
theorem round_yes (r : Int) (r0 : 0 ≤ r) (r1 : r < 8) (w : World) :
    Calls Tryz.prog 43 #[.int .i64 r] w fun e w' => e = .returned (.bool true) ∧ w' = w := by
  go_enter Tryz.func43, Tryz.ntmps43
  go_wp2
  go_ret
  exact ⟨rfl, rfl⟩
theorem round_no (r : Int) (h : ¬ (0 ≤ r ∧ r < 8)) (w : World) :
    Calls Tryz.prog 43 #[.int .i64 r] w fun e w' => e = .returned (.bool false) ∧ w' = w := by
  by_cases r0 : 0 ≤ r
  · have r1 : ¬ r < 8 := by omega
    clear h
    go_enter Tryz.func43, Tryz.ntmps43
    go_wp2
    go_ret
    exact ⟨rfl, rfl⟩
  · clear h
    go_enter Tryz.func43, Tryz.ntmps43
    go_wp2
    go_ret
    exact ⟨rfl, rfl⟩

/-! weights that there is no draw of -/
theorem new_err (v : Value) (z p : Int) (A : Nat → Addr) (w : World) (hL : DrawLaid w A) (hC : WCase w v z p) :
    Calls Tryz.prog 44 #[v] w fun e w' => ∃ u y, e = .returned (.tuple #[.pointer none, .iface u y]) ∧ ErrAt w.heap.size w' A (.iface u y) z p ∧ Below w.heap.size w w' := by
  cases hC with
  | shape a n cap h hm e =>
    subst e
    refine new_hands _ _ (fun x w' => ErrAt w.heap.size w' A x 3 (-1) ∧ Below w.heap.size w w') ((together_shape a n cap A w hL h hm).mono ?_)
    rintro e w' ⟨rfl, hB⟩
    exact ⟨_, _, rfl, .inl ⟨2, by omega, rfl, rfl, rfl⟩, hB⟩
  | bad b off n cap k0 W hI hb n1 n64 hk0 hG hbad e =>
    subst e
    refine new_hands _ _ (fun x w' => ErrAt w.heap.size w' A x 2 k0 ∧ Below w.heap.size w w') ((together_bad_at b off n cap k0 W A w hL hI n1 n64 hk0 hG hbad).mono ?_)
    rintro e w' ⟨m, rfl, d0, d1, hB, hm⟩
    exact ⟨_, _, rfl, .inr ⟨m, 1, hm, by omega, rfl, rfl, d0, d1⟩, hB⟩
  | none b off n cap W hI hb hW h0 e =>
    subst e
    refine new_hands _ _ (fun x w' => ErrAt w.heap.size w' A x 4 (-1) ∧ Below w.heap.size w w') ((together_none b off n cap W A w hL hI hW h0).mono ?_)
    rintro e w' ⟨rfl, hB⟩
    exact ⟨_, _, rfl, .inl ⟨3, by omega, rfl, rfl, rfl⟩, hB⟩

/-! a number of a draw, by lots -/
theorem DrawAt.kept {w w' : World} {b c n : Nat} {H : Int} {d : DS} {X : List Nat} (h : DrawAt w b c n H d) (hK : Kept X w w') (hb : b ∉ X) (hc : c ∉ X) : DrawAt w' b c n H d :=
  ⟨hK.old h.c0 hb, hK.old h.c1 hb, fun k hk => hK.old (h.l k hk) hc, fun k hk => hK.old (h.o k hk) hc⟩
set_option maxRecDepth 100000 in
set_option maxHeartbeats 1000000 in
theorem rpick_of (D c n s H : Nat) (W : Nat → Int) (hs : s < W64) (w : World) (hD : DrawAt w D c n H (dend n W)) (n1 : 1 ≤ n) (n64 : n ≤ 64) (H1 : 1 ≤ H) (H2 : H ≤ 68719476736) :
    Calls Tryz.prog 45 #[.pointer (some ⟨D, 0, none⟩), .int .u64 s] w fun e w' => ∃ v1 t1 v2 t2 : Nat, e = .returned (.int .i64 ((dend n W).pick v1 v2)) ∧ (Bel n s v1 t1 ∧ Bel H t1 v2 t2) ∧ Below w.heap.size w w' := by
  have N := hide (prog_newLot s hs w)
  have N1 := hide n1
  have N64 := hide n64
  have G1 := hide H1
  have G2 := hide H2
  have z1 : Hid (D < w.heap.size) := cell_lt hD.c0
  have z2 : Hid (c < w.heap.size) := cell_lt (hD.l 0 (by omega))
  clear hs n1 n64 H1 H2
  go_enter Tryz.func45, Tryz.ntmps45
  go_wp2_with fail
  refine N.out.mono ?_
  rintro e w1 ⟨l, rfl, hl, hL1, B1⟩
  have hD1 := hD.below B1
  have x1 : Hid (D ∉ [l]) := by have := z1.out; unfold Hid; simp; omega
  have x2 : Hid (c ∉ [l]) := by have := z2.out; unfold Hid; simp; omega
  have x3 := hide hl
  clear N hD z1 z2 hl
  go_wp2_with fail
  refine (draw_columns D c n H _ _ hD1).mono ?_
  rintro e w2 ⟨rfl, hw⟩
  obtain rfl := hw.symm
  go_wp2_with fail
  refine (below_yes l s n w1 hL1 N1.out (by have := N64.out; omega)).mono ?_
  rintro e w3 ⟨v1, t1, rfl, hv1, hL3, K3⟩
  have hD3 := hD1.kept K3 x1.out x2.out
  have B3 := B1.trans (K3.below B1.size (by simp; exact x3.out))
  have lv1 := hide (hv1.lt (by have := N1.out; omega)).1
  have HV1 := hide hv1
  clear hL1 hD1 B1 K3 hv1
  go_wp2_with fail
  refine (draw_height D c n H _ _ hD3).mono ?_
  rintro e w4 ⟨rfl, hw⟩
  obtain rfl := hw.symm
  go_wp2_with fail
  refine (below_yes l t1 H w3 hL3 G1.out (by have := G2.out; omega)).mono ?_
  rintro e w5 ⟨v2, t2, rfl, hv2, hL5, K5⟩
  have hD5 := hD3.kept K5 x1.out x2.out
  have B5 := B3.trans (K5.below B3.size (by simp; exact x3.out))
  have lv2 := hide (hv2.lt (by have := G1.out; omega)).1
  have HV2 := hide hv2
  clear hL3 hD3 B3 K5 hv2 hL5
  go_wp2_with fail
  refine (draw_pick_yes D c n v1 v2 H _ w5 hD5 lv1.out (by omega) (by have := lv2.out; omega)).mono ?_
  rintro e w6 ⟨rfl, B6⟩
  go_wp2_with fail
  go_ret
  exact ⟨v1, t1, v2, t2, rfl, ⟨HV1.out, HV2.out⟩, B5.trans (B6.mono B5.size)⟩

theorem three_ints (w : World) (c l r : Int) (t : TypeId) : Ints (w.alloc (.cells #[.int .i64 c, .int .i64 l, .int .i64 r] t)) w.heap.size 0 3 (tri c l r) := fun i hi => by
  have : i = 0 ∨ i = 1 ∨ i = 2 := by omega
  rcases this with rfl | rfl | rfl <;> exact cell_new _ _ _ _ _ _ rfl rfl

/-! who bakes -/
set_option maxRecDepth 100000 in
theorem rb_bad (a : Option Addr) (n cap seed : Nat) (c l r : Int) (h : ¬ TurnOk c l r) (A : Nat → Addr) (w : World) (hL : DrawLaid w A) :
    Calls Tryz.prog 12 #[.slice a n cap, .int .u64 seed, .int .i64 c, .int .i64 l, .int .i64 r] w fun e w' => e = .returned (.tuple #[.int .i64 0, sent (A 1)]) ∧ Below w.heap.size w w' := by
  have v1 := hL.v1
  by_cases ht : (0 ≤ c ∧ c ≤ 1048576) ∧ 0 ≤ l ∧ l ≤ 4194304
  · have T := time_yes c l ht.1.1 ht.1.2 ht.2.1 ht.2.2
    have R := round_no r (fun g => h ⟨ht.1, ht.2, g⟩)
    clear h ht
    go_enter Tryz.func12, Tryz.ntmps12
    go_wp2_with (first | (go_at_call 42; refine (T _).mono ?_; rintro e w' ⟨rfl, rfl⟩) | (go_at_call 43; refine (R _).mono ?_; rintro e w' ⟨rfl, rfl⟩))
    go_quiet (fail)
    go_wp2
    go_ret2
    exact ⟨rfl, below_drewN (Below.refl _ _) _⟩
  · have T := time_no c l ht
    clear h ht
    go_enter Tryz.func12, Tryz.ntmps12
    go_wp2_with (go_at_call 42; refine (T _).mono ?_; rintro e w' ⟨rfl, rfl⟩)
    go_quiet (fail)
    go_wp2
    go_ret2
    exact ⟨rfl, below_drewN (Below.refl _ _) _⟩
set_option maxRecDepth 100000 in
theorem rb_err (v : Value) (seed : Nat) (_hs : seed < W64) (c l r z p : Int) (h : TurnOk c l r) (A : Nat → Addr) (w : World) (hL : DrawLaid w A) (hC : WCase w v z p) :
    Calls Tryz.prog 12 #[v, .int .u64 seed, .int .i64 c, .int .i64 l, .int .i64 r] w fun e w' => ∃ u y, e = .returned (.tuple #[.int .i64 0, .iface u y]) ∧ ErrAt w.heap.size w' A (.iface u y) z p ∧ Below w.heap.size w w' := by
  have T := time_yes c l h.1.1 h.1.2 h.2.1.1 h.2.1.2
  have R := round_yes r h.2.2.1 h.2.2.2
  have N := new_err v z p A w hL hC
  clear h _hs hC hL
  go_enter Tryz.func12, Tryz.ntmps12
  go_wp2_with (first | (go_at_call 42; refine (T _).mono ?_; rintro e w' ⟨rfl, rfl⟩) | (go_at_call 43; refine (R _).mono ?_; rintro e w' ⟨rfl, rfl⟩))
  refine N.mono ?_
  rintro e w1 ⟨u, y, rfl, hE, hB⟩
  have HE := hide hE
  clear hE N T R
  go_wp2_with fail
  go_ret2
  exact ⟨_, _, rfl, HE.out, hB⟩
set_option maxRecDepth 100000 in
set_option maxHeartbeats 1000000 in
theorem rb_fine (b off n cap seed : Nat) (W : Nat → Int) (c l r : Int) (h : TurnOk c l r) (hs : seed < W64) (w : World) (hI : Ints w b off n W) (hb : b < w.heap.size) (hW : Weights n W) (h0 : sumTo W n ≠ 0) :
    Calls Tryz.prog 12 #[.slice (some ⟨b, off, none⟩) n cap, .int .u64 seed, .int .i64 c, .int .i64 l, .int .i64 r] w fun e w' => ∃ k, e = .returned (.tuple #[.int .i64 k, .nilIface]) ∧ Turn n W seed c l r k ∧ Below w.heap.size w w' := by
  have T := time_yes c l h.1.1 h.1.2 h.2.1.1 h.2.1.2
  have R := round_yes r h.2.2.1 h.2.2.2
  have N := new_fine b off n cap W w hI hb hW h0
  have sm := hW.sum
  obtain ⟨H, eH⟩ : ∃ H : Nat, sumTo W n = H := ⟨(sumTo W n).toNat, by omega⟩
  rw [eH] at N
  have H1 : Hid (1 ≤ H) := by unfold Hid; omega
  have H2 : Hid (H ≤ 68719476736) := by unfold Hid; omega
  have EH := hide eH
  have HS := hide hs
  have HW := hide hW
  clear h hI hb h0 sm eH hs hW
  go_enter Tryz.func12, Tryz.ntmps12
  go_wp2_with (first | (go_at_call 42; refine (T _).mono ?_; rintro e w' ⟨rfl, hw⟩; obtain rfl := hw.symm) | (go_at_call 43; refine (R _).mono ?_; rintro e w' ⟨rfl, hw⟩; obtain rfl := hw.symm))
  refine N.mono ?_
  rintro e w1 ⟨D, cb, rfl, hd, hD, B1⟩
  have hT : Below w1.heap.size w1 (w1.alloc (.cells #[.int .i64 c, .int .i64 l, .int .i64 r] 3)) := (Below.refl _ _).alloc (Nat.le_refl _) _
  have M := hide (prog_mix (some ⟨w1.heap.size, 0, none⟩) w1.heap.size 0 3 3 seed (tri c l r) HS.out (by omega) _ (fun _ => rfl) (fun _ => by simp) (three_ints w1 c l r 3))
  clear N T R hd
  go_wp2_with fail
  refine M.out.mono ?_
  rintro e w2 ⟨rfl, B2⟩
  have hm := hide (mixTo_lt (tri c l r) seed HS.out 3)
  have hD2 := (hD.below hT).below B2
  have B3 := (B1.trans (hT.mono B1.size))
  have B4 := B3.trans (B2.mono B3.size)
  clear M B1 B2 B3 hT hD
  generalize hms : mixTo (tri c l r) seed 3 = ms at *
  have HMS := hide hms
  clear hms
  go_wp2_with fail
  refine (rpick_of D cb n ms H W hm.out w2 hD2 HW.out.n1 HW.out.n64 H1.out H2.out).mono ?_
  rintro e w3 ⟨v1, t1, v2, t2, rfl, hv, B5⟩
  have HT : Hid (Turn n W seed c l r ((dend n W).pick v1 v2)) := ⟨v1, t1, v2, t2, by rw [HMS.out]; exact hv.1, by rw [EH.out]; exact hv.2, rfl⟩
  clear hv hD2 hm
  generalize (dend n W).pick v1 v2 = q at *
  go_wp2_with fail
  go_ret2
  exact ⟨q, rfl, HT.out, B4.trans (B5.mono B4.size)⟩

/-! rows that are filled one by one -/
/-- the first so many of a row of the call's own are laid, the rest is nought -/
structure RowTo (w : World) (m n k : Nat) (K : Nat → Int) : Prop where
  c : ∀ i, i < n → w.cell? ⟨m, i, none⟩ = some (.int .i64 (if i < k then K i else 0))
  f : ∀ i, w.frozen? ⟨m, i, none⟩ = false
  lt : m < w.heap.size
theorem RowTo.new (w : World) (n : Nat) (t : TypeId) (K : Nat → Int) : RowTo (w.alloc (.cells (noughts n) t)) w.heap.size n 0 K :=
  ⟨fun i hi => by rw [if_neg (by omega)]; exact cell_new _ _ _ _ _ _ rfl (noughts_at n i hi), fun i => World.frozen?_alloc_at _ _ _ _ rfl, by simp⟩
theorem RowTo.below {w w' : World} {m n k : Nat} {K : Nat → Int} (h : RowTo w m n k K) (hB : Below w.heap.size w w') : RowTo w' m n k K :=
  ⟨fun i hi => draw_old hB (h.c i hi), fun i => by rw [hB.frozen (p := ⟨m, i, none⟩) h.lt]; exact h.f i, Nat.lt_of_lt_of_le h.lt hB.size⟩
theorem RowTo.next {w : World} {m n k : Nat} {K K' : Nat → Int} {x : Int} (h : RowTo w m n k K) (hk : k < n) (hK : ∀ i, i < k → K' i = K i) (hx : K' k = x) : RowTo (w.setCell ⟨m, k, none⟩ (.int .i64 x)) m n (k + 1) K' := by
  refine ⟨fun i hi => ?_, fun i => by rw [World.frozen?_setCell]; exact h.f i, by simp [World.setCell]; exact h.lt⟩
  by_cases e : i = k
  · subst e
    rw [World.cell?_setCell_same _ _ _ (h.c i hi), if_pos (by omega), hx]
  · rw [World.cell?_setCell_other _ _ _ _ (by simp <;> omega), h.c i hi]
    by_cases g : i < k
    · rw [if_pos g, if_pos (by omega), hK i g]
    · rw [if_neg g, if_neg (by omega)]
theorem RowTo.all {w : World} {m n : Nat} {K : Nat → Int} (h : RowTo w m n n K) : Ints w m 0 n K := fun i hi => by
  have := h.c i hi
  rw [if_pos hi] at this
  rw [Nat.zero_add]; exact this

/-! a picture of nothing -/
theorem make_tri (w : World) : (Instr.makeSlice 31 (.int .i64 3) (.int .i64 3)).run Tryz.prog w = .ok (.slice (some ⟨w.heap.size, 0, none⟩) 3 3) (w.alloc (.cells (noughts 3) 3)) := make_ints 3 (by omega) w
theorem rp_nil (w : World) :
    Calls Tryz.prog 41 #[.pointer none] w fun e w' => ∃ m cap', e = .returned (.slice (some ⟨m, 0, none⟩) 3 cap') ∧ m < w'.heap.size ∧ Ints w' m 0 3 (fun _ => 0) ∧ Below w.heap.size w w' := by
  have mk := make_tri
  have R := RowTo.new w 3 3 (fun _ => 0)
  go_enter Tryz.func41, Tryz.ntmps41
  go_wp2
  go_ret
  exact ⟨_, _, rfl, R.lt, fun i hi => by have := R.c i hi; rw [if_neg (by omega)] at this; rw [Nat.zero_add]; exact this, (Below.refl _ _).alloc (Nat.le_refl _) _⟩

/-! the rounds of a level -/
theorem make_eight (w : World) : (Instr.makeSlice 31 (.int .i64 8) (.int .i64 8)).run Tryz.prog w = .ok (.slice (some ⟨w.heap.size, 0, none⟩) 8 8) (w.alloc (.cells (noughts 8) 3)) := make_ints 8 (by omega) w
end Go.Proofs.YtaihcceobnfmhaaGreatDoor
