/-
  A new draw of the program by its contracts; the closed fact.
  Next lots, as Go reckons them; the program's by its contract.
  The program's lots by their contracts: a new one, numbers mixed; the closed fact.
  The program's lot below a number, by its contract.
  The program's rights by their contracts: who bakes a round, who the rounds of a level; a picture of nothing.
  The program's chain by its contracts: whose turn it is.
  The program's books by their contracts: stake, free.
-/
import Derived.Test.YtmbfdhekplnoaaaGreatDoorProgFill
import Derived.Test.YtmbfdhekplnoaaaGreatDoorIssueMathX
import Derived.Test.YtmbfdhekplnoaaaGreatDoorTextOwnX
import Derived.Laws.Bits64
import Derived.Test.YtmbfdhekplnoaaaGreatDoorProgPurseActsX
import Derived.Test.YtmbfdhekplnoaaaGreatDoorFillAtX
import Derived.Test.YtmbfdhekplnoaaaGreatDoorProgChainTellsX
import Derived.Deep.RegionHeld3
namespace Go.Proofs.YtmbfdhekplnoaaaGreatDoor
open Go.RowKit Go.Deep

set_option maxRecDepth 100000 in
theorem new_hands (v : Value) (w : World) (R : Value → World → Prop)
    (ck : Calls Tryz.prog 230 #[v] w fun e w' => ∃ u y, e = .returned (.tuple #[.int .i64 0, .iface u y]) ∧ R (.iface u y) w') :
    Calls Tryz.prog 174 #[v] w fun e w' => ∃ u y, e = .returned (.tuple #[.pointer none, .iface u y]) ∧ R (.iface u y) w' := by
  go_enter Tryz.func174, Tryz.ntmps174
  go_wp2_with fail
  refine ck.mono ?_
  rintro e w1 ⟨u, y, rfl, hR⟩
  have HR := hide hR
  clear hR ck
  go_wp2
  go_ret2
  exact ⟨_, _, rfl, HR.out⟩

set_option maxRecDepth 100000 in
set_option maxHeartbeats 1000000 in
theorem new_fine (b off n cap : Nat) (W : Nat → Int) (w : World) (hI : Ints w b off n W) (hb : b < w.heap.size) (hW : Weights n W) (h0 : sumTo W n ≠ 0) :
    Calls Tryz.prog 174 #[.slice (some ⟨b, off, none⟩) n cap] w fun e w' => ∃ d c, e = .returned (.tuple #[.pointer (some ⟨d, 0, none⟩), .nilIface]) ∧ w.heap.size ≤ d ∧ DrawAt w' d c n (sumTo W n) (dend n W) ∧ Below w.heap.size w w' := by
  have T := together_fine b off n cap W w hI hW h0
  have F := fill_of b off n cap W w hI hb hW
  clear h0 hI
  go_enter Tryz.func174, Tryz.ntmps174
  go_wp2_with (first | (go_at_call 230; refine T.mono ?_; rintro e w1 ⟨rfl, rfl⟩) | (go_at_call 231; refine F.mono ?_; rintro e w1 ⟨c, rfl, hc, hcol, hB⟩))
  go_ret2
  have hs := hB.size
  refine ⟨_, _, rfl, hs, ⟨cell_new _ _ _ _ _ _ rfl rfl, cell_new _ _ _ _ _ _ rfl rfl, fun k hk => ?_, fun k hk => ?_⟩, hB.alloc hs _⟩
  · rw [World.cell?_alloc_lt _ _ _ (cell_lt (hcol k hk).1)]; exact (hcol k hk).1
  · rw [World.cell?_alloc_lt _ _ _ (cell_lt (hcol k hk).2)]; exact (hcol k hk).2

/-! the closed fact -/
def two : Nat → Int := fun i => if i = 0 then 1 else 3
end Go.Proofs.YtmbfdhekplnoaaaGreatDoor

namespace Go.Proofs.YtmbfdhekplnoaaaGreatDoor
open Go.RowKit

theorem next_state (s : Nat) : IntKind.u64.wrap ((s : Int) + 11400714819323198485) = ((nextS s : Nat) : Int) := by
  rw [IntKind.wrap_u64]
  unfold nextS
  show _ = (((s + 11400714819323198485) % 18446744073709551616 : Nat) : Int)
  omega
theorem div_word (a k : Nat) (ha : a < W64) : IntKind.u64.wrap ((a : Int).tdiv (k : Int)) = (a : Int) / (k : Int) := by
  rw [Int.tdiv_eq_ediv_of_nonneg (by omega), IntKind.wrap_u64]
  have h : a / k ≤ a := Nat.div_le_self _ _
  have e : (a : Int) / (k : Int) = ((a / k : Nat) : Int) := (Int.natCast_ediv a k).symm
  have ha' : a < 18446744073709551616 := ha
  rw [e]
  generalize a / k = m at *
  omega
theorem step_xs (k a C : Nat) : (a ^^^ a / 2 ^ k) * C % 18446744073709551616 = xs k a * C % W64 := by
  unfold xs
  rw [Nat.shiftRight_eq_div_pow]
theorem word_1 (a : Nat) (ha : a < W64) : IntKind.u64.wrap (bits .xor .u64 (a : Int) ((a : Int) / 1073741824) * 13787848793156543929) = ((xs 30 a * 13787848793156543929 % W64 : Nat) : Int) := by
  have h := mixStep_u64 a 1073741824 13787848793156543929 ha
  rw [show (1073741824 : Nat) = 2 ^ 30 from rfl, step_xs] at h
  exact h
theorem word_2 (a : Nat) (ha : a < W64) : IntKind.u64.wrap (bits .xor .u64 (a : Int) ((a : Int) / 134217728) * 10723151780598845931) = ((xs 27 a * 10723151780598845931 % W64 : Nat) : Int) := by
  have h := mixStep_u64 a 134217728 10723151780598845931 ha
  rw [show (134217728 : Nat) = 2 ^ 27 from rfl, step_xs] at h
  exact h
theorem word_3 (a : Nat) (ha : a < W64) : bits .xor .u64 (a : Int) ((a : Int) / 2147483648) = ((xs 31 a : Nat) : Int) := by
  have h := xorShift_u64 a 2147483648 ha
  have e : a ^^^ a / 2147483648 = xs 31 a := by
    unfold xs
    rw [Nat.shiftRight_eq_div_pow]
  rw [e] at h
  exact h
theorem mod64 (x : Nat) : x % W64 < W64 := Nat.mod_lt _ (by decide)
structure LotAt (w : World) (b s : Nat) : Prop where
  c : w.cell? ⟨b, 0, none⟩ = some (.int .u64 s)
  f : w.frozen? ⟨b, 0, none⟩ = false
  lt : s < W64
theorem LotAt.set {w : World} {b s : Nat} (h : LotAt w b s) (t : Nat) (ht : t < W64) : LotAt (w.setCell ⟨b, 0, none⟩ (.int .u64 t)) b t :=
  ⟨World.cell?_setCell_same _ _ _ h.c, by rw [World.frozen?_setCell]; exact h.f, ht⟩
set_option maxRecDepth 100000 in
theorem prog_next (b s : Nat) (w : World) (h : LotAt w b s) :
    Calls Tryz.prog 237 #[.pointer (some ⟨b, 0, none⟩)] w fun e w' => e = .returned (.int .u64 (nextL s)) ∧ w' = w.setCell ⟨b, 0, none⟩ (.int .u64 (nextS s)) := by
  have c := h.c
  have f := h.f
  go_enter Tryz.func237, Tryz.ntmps237
  go_wp2
  go_ret
  rw [next_state s, word_1 _ (nextS_lt s), word_2 _ (mod64 _), word_3 _ (mod64 _)]
  exact ⟨rfl, rfl⟩
def stateOf (w : World) (b : Nat) : Nat := match w.cell? ⟨b, 0, none⟩ with | some (.int _ s) => s.toNat | _ => 0
theorem LotAt.state {w : World} {b s : Nat} (h : LotAt w b s) : stateOf w b = s := by
  unfold stateOf
  rw [h.c]
  exact Int.toNat_natCast s
end Go.Proofs.YtmbfdhekplnoaaaGreatDoor

namespace Go.Proofs.YtmbfdhekplnoaaaGreatDoor
open Go.RowKit

theorem lot_new (w : World) (s : Nat) (hs : s < W64) (t : TypeId) : LotAt (w.alloc (.cells #[.int .u64 s] t)) w.heap.size s :=
  ⟨cell_new _ _ _ _ _ _ rfl rfl, World.frozen?_alloc_at _ _ _ _ rfl, hs⟩
theorem prog_newLot (s : Nat) (hs : s < W64) (w : World) :
    Calls Tryz.prog 232 #[.int .u64 s] w fun e w' => ∃ b, e = .returned (.pointer (some ⟨b, 0, none⟩)) ∧ w.heap.size ≤ b ∧ LotAt w' b s ∧ Below w.heap.size w w' := by
  go_enter Tryz.func232, Tryz.ntmps232
  go_wp2
  go_ret
  exact ⟨_, rfl, Nat.le_refl _, lot_new w s hs _, (Below.refl _ _).alloc (Nat.le_refl _) _⟩

/-! numbers mixed into a seed -/
set_option maxRecDepth 100000 in
set_option maxHeartbeats 1000000 in
theorem prog_mix (a : Option Addr) (b off n cap seed : Nat) (W : Nat → Int) (hs : seed < W64) (hn : n ≤ 1000) (w : World) (ha : Hid (0 < n → a = some ⟨b, off, none⟩)) (hb : Hid (0 < n → b < w.heap.size)) (hI : Ints w b off n W) :
    Calls Tryz.prog 176 #[.int .u64 seed, .slice a n cap] w fun e w' => e = .returned (.int .u64 (mixTo W seed n)) ∧ Below w.heap.size w w' := by
  go_enter Tryz.func176, Tryz.ntmps176
  go_wp2
  go_loopw [0, 9] (fun r i wr => ∃ k : Nat, k ≤ n ∧ i = .int .i64 k ∧ r = .int .u64 (mixTo W seed k) ∧ Below w.heap.size w wr) (fun _ i _ => n - (intOf i).toNat)
  case atStart => exact ⟨0, Nat.zero_le _, rfl, rfl, Below.refl _ _⟩
  case round =>
    obtain ⟨k, hk, rfl, rfl, hB⟩ := hrel
    by_cases hlt : k < n
    · have c0 := hI.below hB (hb.out (by omega)) k hlt
      obtain rfl := ha.out (by omega)
      have hm := mixTo_lt W seed hs k
      have hu := toU_lt (W k)
      have hx := xor_lt64 hm hu
      have e1 : IntKind.u64.wrap (W k) = ((toU (W k) : Nat) : Int) := by rw [toU_cast, IntKind.wrap_u64]
      have e2 : bits .xor .u64 ((mixTo W seed k : Nat) : Int) ((toU (W k) : Nat) : Int) = ((mixTo W seed k ^^^ toU (W k) : Nat) : Int) := bits_xor_u64_nat _ _ hm hu
      have N := prog_newLot (mixTo W seed k ^^^ toU (W k)) hx wr
      have E : Hid (nextL (mixTo W seed k ^^^ toU (W k)) = mixTo W seed (k + 1)) := rfl
      clear hI hm hu hx ha hb
      generalize mixTo W seed k ^^^ toU (W k) = y at *
      generalize toU (W k) = u at *
      generalize mixTo W seed k = m at *
      go_wp2_with fail
      refine N.mono ?_
      rintro e w1 ⟨l, rfl, hl, hL, hB1⟩
      have hB2 := hB.trans (hB1.mono hB.size)
      have hB3 := hB2.setCell (p := ⟨l, 0, none⟩) (Nat.le_trans hB.size hl) (.int .u64 (nextS y))
      go_wp2_with fail
      refine (prog_next l y w1 hL).mono ?_
      rintro e w2 ⟨rfl, rfl⟩
      go_wp2_with fail
      go_roundw
      case rel => exact ⟨k + 1, by omega, by go_num, by rw [E.out], hB3⟩
      case measure => simp [intOf]; omega
    · obtain rfl : n = k := by omega
      go_wp2_with fail
      go_ret
      exact ⟨rfl, hB⟩
/-! the closed fact -/
end Go.Proofs.YtmbfdhekplnoaaaGreatDoor

namespace Go.Proofs.YtmbfdhekplnoaaaGreatDoor
open Go.RowKit

set_option maxRecDepth 100000 in
set_option maxHeartbeats 1000000 in
theorem below_yes (b s n : Nat) (w : World) (h : LotAt w b s) (n1 : 1 ≤ n) (nM : n ≤ 1125899906842624) :
    Calls Tryz.prog 233 #[.pointer (some ⟨b, 0, none⟩), .int .i64 n] w fun e w' => ∃ v t, e = .returned (.tuple #[.int .i64 (v : Nat), .nilIface]) ∧ Bel n s v t ∧ LotAt w' b t ∧ Kept [b] w w' := by
  have S := some_yes n (by omega) (by omega)
  obtain ⟨N', M, Q, hN, hM, m1, m2, q0, q1, q2, q3⟩ : ∃ N' M Q : Int, (n : Int) = N' ∧ ((most n : Nat) : Int) = M ∧ 1 ≤ N' ∧ N' ≤ 1125899906842624 ∧ 9223372036854775808 % N' = Q ∧ 0 ≤ Q ∧ Q ≤ 9223372036854775808 ∧ 9223372036854775808 - Q = M := by
    have hm := most_rest n
    have e : (9223372036854775808 : Int) % (n : Int) = ((9223372036854775808 % n : Nat) : Int) := rfl
    exact ⟨_, _, _, rfl, rfl, by omega, by omega, e, by omega, by omega, by omega⟩
  have m3 : 0 ≤ M := by omega
  have m4 : M ≤ 9223372036854775808 := by omega
  have step : ∀ q, Hid (∃ X Z R : Int, (nextL q : Int) = X ∧ ((nextL q / 2 : Nat) : Int) = Z ∧ ((nextL q / 2 % n : Nat) : Int) = R ∧ 0 ≤ Z ∧ Z ≤ 9223372036854775807 ∧ 0 ≤ R ∧ R ≤ Z ∧ R < N' ∧ X / 2 = Z ∧ Z % N' = R ∧ (Z < M ↔ nextL q / 2 < most n)) := fun q => by
    have hl := nextL_lt q
    have hm := Nat.mod_le (nextL q / 2) n
    have hn := Nat.mod_lt (nextL q / 2) (show 0 < n by omega)
    have hb : nextL q < 18446744073709551616 := hl
    have ht : ((nextL q / 2 : Nat) : Int) % N' = ((nextL q / 2 % n : Nat) : Int) := by rw [← hN]; exact (Int.natCast_emod _ _).symm
    exact ⟨_, _, _, rfl, rfl, rfl, by omega, by omega, by omega, by omega, by omega, by omega, ht, by omega⟩
  obtain ⟨lag, hlag'⟩ := lag_ex
  have hlag := hide hlag'
  clear hlag'
  go_enter Tryz.func233, Tryz.ntmps233
  rw [hN]
  rw [hN] at S
  have N1 := hide n1
  have NM := hide nM
  have N := prog_next b s w h
  have hq' := h.set (nextS s) (nextS_lt s)
  have hK' := (Kept.refl [b] w).setCell (p := ⟨b, 0, none⟩) (by simp) (.int .u64 (nextS s))
  have hs := hide h.lt
  obtain ⟨X, Z, R, hX, hZ, hR', z0, z1, r0, r1, r2, w2, ht, hmt⟩ := (step s).out
  rw [hX] at N
  have HZ := hide hZ
  clear hN hM n1 nM h hX hZ hR' r0 r1 r2 ht hmt
  go_wp2_with (first | (go_at_call 268; refine (S w).mono ?_; rintro e w0 ⟨rfl, rfl⟩) | (go_at_call 237; refine N.mono ?_; rintro e w1 ⟨rfl, rfl⟩))
  go_loopw [8] (fun r wr => ∃ (q : Nat) (Z : Int), r = .int .u64 Z ∧ Hid (((nextL q / 2 : Nat) : Int) = Z) ∧ LotAt wr b (nextS q) ∧ Kept [b] w0 wr ∧ Hid (q < W64 ∧ ∀ v t, Bel n q v t → Bel n s v t)) (fun _ wr => lag (stateOf wr b))
  case atStart => exact ⟨s, Z, by rw [w2], HZ, hq', hK', hs.out, fun _ _ h => h⟩
  case round =>
    obtain ⟨q, Z, rfl, HZ', hL, hK, hR⟩ := hrel
    clear hq' hK' HZ N S z0 z1 w2 hs q0 q1 q2 q3
    obtain ⟨X, _, R, hX, rfl, hR', z0, z1, r0, r1, r2, w2, ht, hmt⟩ := (step q).out
    rw [HZ'.out] at z0 z1 r1 w2 ht hmt
    clear HZ'
    by_cases hlt : nextL q / 2 < most n
    · have hB : Hid (∃ v : Nat, Bel n s v (nextS q) ∧ (v : Int) = R) := ⟨_, hR.out.2 _ _ (Bel.take q hlt), hR'⟩
      have g := hmt.2 hlt
      clear hmt hR hlt hR' hX step hlag N1 NM
      go_wp2
      go_ret2
      obtain ⟨v, hv, hR⟩ := hB.out
      exact ⟨v, nextS q, ret_pair hR.symm _, hv, hL, hK⟩
    · have hR2 : Hid (nextS q < W64 ∧ ∀ v t, Bel n (nextS q) v t → Bel n s v t) := ⟨nextS_lt q, fun v t h => hR.out.2 v t (Bel.more q v t hlt h)⟩
      have g : ¬ Z < M := fun g => hlt (hmt.1 g)
      have hf := hide (falls hR.out.1 N1.out (by have := NM.out; omega) hlt)
      have N := prog_next b (nextS q) wr hL
      have hL2 := hL.set (nextS (nextS q)) (nextS_lt _)
      have hK2 := hK.setCell (p := ⟨b, 0, none⟩) (by simp) (.int .u64 (nextS (nextS q)))
      have hm : Hid (lag (stateOf (wr.setCell ⟨b, 0, none⟩ (.int .u64 (nextS (nextS q)))) b) < lag (stateOf wr b)) := by
        rw [hL.state, hL2.state, hlag.out, hlag.out, prevS_next _ hR.out.1, prevS_next _ (nextS_lt q)]
        exact hf.out
      clear hf hlag
      clear hmt hR hlt hR' hX z0 z1 r0 r1 r2 w2 ht
      obtain ⟨X', Z', R', hX, hZ, hR', z0', z1', r0, r1, r2, w2', ht, hmt⟩ := (step (nextS q)).out
      rw [hX] at N
      have HZ := hide hZ
      clear hmt hR' hZ hX r0 r1 r2 ht step
      go_wp2_with (go_at_call 237; refine N.mono ?_; rintro e w1 ⟨rfl, rfl⟩)
      go_roundw
      case rel => exact ⟨nextS q, Z', by rw [w2'], HZ, hL2, hK2, hR2⟩
      case measure => exact hm.out
end Go.Proofs.YtmbfdhekplnoaaaGreatDoor

namespace Go.Proofs.YtmbfdhekplnoaaaGreatDoor
open Go.RowKit Go.Deep

/-! times -/
theorem rcy_yes (c : Int) (h0 : 0 ≤ c) (h1 : c ≤ 1048576) (w : World) :
    Calls Tryz.prog 207 #[.int .i64 c] w fun e w' => e = .returned (.bool true) ∧ w' = w := by
  go_enter Tryz.func207, Tryz.ntmps207
  go_wp2
  go_ret
  exact ⟨rfl, rfl⟩
theorem rcy_no (c : Int) (h : ¬ (0 ≤ c ∧ c ≤ 1048576)) (w : World) :
    Calls Tryz.prog 207 #[.int .i64 c] w fun e w' => e = .returned (.bool false) ∧ w' = w := by
  by_cases h0 : 0 ≤ c
  · have h3 : ¬ c ≤ 1048576 := by omega
    clear h
    go_enter Tryz.func207, Tryz.ntmps207
    go_wp2
    go_ret
    exact ⟨rfl, rfl⟩
  · clear h
    go_enter Tryz.func207, Tryz.ntmps207
    go_wp2
    go_ret
    exact ⟨rfl, rfl⟩
theorem time_yes (c l : Int) (c0 : 0 ≤ c) (c1 : c ≤ 1048576) (l0 : 0 ≤ l) (l1 : l ≤ 4194304) (w : World) :
    Calls Tryz.prog 173 #[.int .i64 c, .int .i64 l] w fun e w' => e = .returned (.bool true) ∧ w' = w := by
  have I := rcy_yes c c0 c1
  go_enter Tryz.func173, Tryz.ntmps173
  go_wp2_with (go_at_call 207; refine (I _).mono ?_; rintro e w' ⟨rfl, rfl⟩)
  go_ret
  exact ⟨rfl, rfl⟩
theorem time_no (c l : Int) (h : ¬ ((0 ≤ c ∧ c ≤ 1048576) ∧ 0 ≤ l ∧ l ≤ 4194304)) (w : World) :
    Calls Tryz.prog 173 #[.int .i64 c, .int .i64 l] w fun e w' => e = .returned (.bool false) ∧ w' = w := by
  by_cases hc : 0 ≤ c ∧ c ≤ 1048576
  · have I := rcy_yes c hc.1 hc.2
    by_cases l0 : 0 ≤ l
    · have l1 : ¬ l ≤ 4194304 := by omega
      clear h hc
      go_enter Tryz.func173, Tryz.ntmps173
      go_wp2_with (go_at_call 207; refine (I _).mono ?_; rintro e w' ⟨rfl, rfl⟩)
      go_ret
      exact ⟨by simp; omega, rfl⟩
    · clear h hc
      go_enter Tryz.func173, Tryz.ntmps173
      go_wp2_with (go_at_call 207; refine (I _).mono ?_; rintro e w' ⟨rfl, rfl⟩)
      go_ret
      exact ⟨rfl, rfl⟩
  · have I := rcy_no c hc
    clear h hc
    go_enter Tryz.func173, Tryz.ntmps173
    go_wp2_with (go_at_call 207; refine (I _).mono ?_; rintro e w' ⟨rfl, rfl⟩)
    go_ret
    exact ⟨rfl, rfl⟩
theorem round_yes (r : Int) (r0 : 0 ≤ r) (r1 : r < 8) (w : World) :
    Calls Tryz.prog 215 #[.int .i64 r] w fun e w' => e = .returned (.bool true) ∧ w' = w := by
  go_enter Tryz.func215, Tryz.ntmps215
  go_wp2
  go_ret
  exact ⟨rfl, rfl⟩
theorem round_no (r : Int) (h : ¬ (0 ≤ r ∧ r < 8)) (w : World) :
    Calls Tryz.prog 215 #[.int .i64 r] w fun e w' => e = .returned (.bool false) ∧ w' = w := by
  by_cases r0 : 0 ≤ r
  · have r1 : ¬ r < 8 := by omega
    clear h
    go_enter Tryz.func215, Tryz.ntmps215
    go_wp2
    go_ret
    exact ⟨rfl, rfl⟩
  · clear h
    go_enter Tryz.func215, Tryz.ntmps215
    go_wp2
    go_ret
    exact ⟨rfl, rfl⟩

/-! weights that there is no draw of -/
/-! a number of a draw, by lots -/
theorem DrawAt.kept {w w' : World} {b c n : Nat} {H : Int} {d : DS} {X : List Nat} (h : DrawAt w b c n H d) (hK : Kept X w w') (hb : b ∉ X) (hc : c ∉ X) : DrawAt w' b c n H d :=
  ⟨hK.old h.c0 hb, hK.old h.c1 hb, fun k hk => hK.old (h.l k hk) hc, fun k hk => hK.old (h.o k hk) hc⟩
set_option maxRecDepth 100000 in
set_option maxHeartbeats 1000000 in
theorem rpick_of (D c n s H : Nat) (W : Nat → Int) (hs : s < W64) (w : World) (hD : DrawAt w D c n H (dend n W)) (n1 : 1 ≤ n) (n64 : n ≤ 64) (H1 : 1 ≤ H) (H2 : H ≤ 68719476736) :
    Calls Tryz.prog 175 #[.pointer (some ⟨D, 0, none⟩), .int .u64 s] w fun e w' => ∃ v1 t1 v2 t2 : Nat, e = .returned (.int .i64 ((dend n W).pick v1 v2)) ∧ (Bel n s v1 t1 ∧ Bel H t1 v2 t2) ∧ Below w.heap.size w w' := by
  have N := hide (prog_newLot s hs w)
  have N1 := hide n1
  have N64 := hide n64
  have G1 := hide H1
  have G2 := hide H2
  have z1 : Hid (D < w.heap.size) := cell_lt hD.c0
  have z2 : Hid (c < w.heap.size) := cell_lt (hD.l 0 (by omega))
  clear hs n1 n64 H1 H2
  go_enter Tryz.func175, Tryz.ntmps175
  go_wp2_with fail
  refine N.out.mono ?_
  rintro e w1 ⟨l, rfl, hl, hL1, B1⟩
  have hD1 := hD.below B1
  have x1 : Hid (D ∉ [l]) := by have := z1.out; unfold Hid; simp; omega
  have x2 : Hid (c ∉ [l]) := by have := z2.out; unfold Hid; simp; omega
  have x3 := hide hl
  clear N hD z1 z2 hl
  go_wp2_with fail
  refine (draw_columns D c n H _ _ hD1).mono ?_
  rintro e w2 ⟨rfl, hw⟩
  obtain rfl := hw.symm
  go_wp2_with fail
  refine (below_yes l s n w1 hL1 N1.out (by have := N64.out; omega)).mono ?_
  rintro e w3 ⟨v1, t1, rfl, hv1, hL3, K3⟩
  have hD3 := hD1.kept K3 x1.out x2.out
  have B3 := B1.trans (K3.below B1.size (by simp; exact x3.out))
  have lv1 := hide (hv1.lt (by have := N1.out; omega)).1
  have HV1 := hide hv1
  clear hL1 hD1 B1 K3 hv1
  go_wp2_with fail
  refine (draw_height D c n H _ _ hD3).mono ?_
  rintro e w4 ⟨rfl, hw⟩
  obtain rfl := hw.symm
  go_wp2_with fail
  refine (below_yes l t1 H w3 hL3 G1.out (by have := G2.out; omega)).mono ?_
  rintro e w5 ⟨v2, t2, rfl, hv2, hL5, K5⟩
  have hD5 := hD3.kept K5 x1.out x2.out
  have B5 := B3.trans (K5.below B3.size (by simp; exact x3.out))
  have lv2 := hide (hv2.lt (by have := G1.out; omega)).1
  have HV2 := hide hv2
  clear hL3 hD3 B3 K5 hv2 hL5
  go_wp2_with fail
  refine (draw_pick_yes D c n v1 v2 H _ w5 hD5 lv1.out (by omega) (by have := lv2.out; omega)).mono ?_
  rintro e w6 ⟨rfl, B6⟩
  go_wp2_with fail
  go_ret
  exact ⟨v1, t1, v2, t2, rfl, ⟨HV1.out, HV2.out⟩, B5.trans (B6.mono B5.size)⟩

theorem three_ints (w : World) (c l r : Int) (t : TypeId) : Ints (w.alloc (.cells #[.int .i64 c, .int .i64 l, .int .i64 r] t)) w.heap.size 0 3 (tri c l r) := fun i hi => by
  have : i = 0 ∨ i = 1 ∨ i = 2 := by omega
  rcases this with rfl | rfl | rfl <;> exact cell_new _ _ _ _ _ _ rfl rfl

/-! who bakes -/
set_option maxRecDepth 100000 in
set_option maxHeartbeats 1000000 in
theorem rb_fine (b off n cap seed : Nat) (W : Nat → Int) (c l r : Int) (h : TurnOk c l r) (hs : seed < W64) (w : World) (hI : Ints w b off n W) (hb : b < w.heap.size) (hW : Weights n W) (h0 : sumTo W n ≠ 0) :
    Calls Tryz.prog 136 #[.slice (some ⟨b, off, none⟩) n cap, .int .u64 seed, .int .i64 c, .int .i64 l, .int .i64 r] w fun e w' => ∃ k, e = .returned (.tuple #[.int .i64 k, .nilIface]) ∧ Turn n W seed c l r k ∧ Below w.heap.size w w' := by
  have T := time_yes c l h.1.1 h.1.2 h.2.1.1 h.2.1.2
  have R := round_yes r h.2.2.1 h.2.2.2
  have N := new_fine b off n cap W w hI hb hW h0
  have sm := hW.sum
  obtain ⟨H, eH⟩ : ∃ H : Nat, sumTo W n = H := ⟨(sumTo W n).toNat, by omega⟩
  rw [eH] at N
  have H1 : Hid (1 ≤ H) := by unfold Hid; omega
  have H2 : Hid (H ≤ 68719476736) := by unfold Hid; omega
  have EH := hide eH
  have HS := hide hs
  have HW := hide hW
  clear h hI hb h0 sm eH hs hW
  go_enter Tryz.func136, Tryz.ntmps136
  go_wp2_with (first | (go_at_call 173; refine (T _).mono ?_; rintro e w' ⟨rfl, hw⟩; obtain rfl := hw.symm) | (go_at_call 215; refine (R _).mono ?_; rintro e w' ⟨rfl, hw⟩; obtain rfl := hw.symm))
  refine N.mono ?_
  rintro e w1 ⟨D, cb, rfl, hd, hD, B1⟩
  have hT : Below w1.heap.size w1 (w1.alloc (.cells #[.int .i64 c, .int .i64 l, .int .i64 r] 3)) := (Below.refl _ _).alloc (Nat.le_refl _) _
  have M := hide (prog_mix (some ⟨w1.heap.size, 0, none⟩) w1.heap.size 0 3 3 seed (tri c l r) HS.out (by omega) _ (fun _ => rfl) (fun _ => by simp) (three_ints w1 c l r 3))
  clear N T R hd
  go_wp2_with fail
  refine M.out.mono ?_
  rintro e w2 ⟨rfl, B2⟩
  have hm := hide (mixTo_lt (tri c l r) seed HS.out 3)
  have hD2 := (hD.below hT).below B2
  have B3 := (B1.trans (hT.mono B1.size))
  have B4 := B3.trans (B2.mono B3.size)
  clear M B1 B2 B3 hT hD
  generalize hms : mixTo (tri c l r) seed 3 = ms at *
  have HMS := hide hms
  clear hms
  go_wp2_with fail
  refine (rpick_of D cb n ms H W hm.out w2 hD2 HW.out.n1 HW.out.n64 H1.out H2.out).mono ?_
  rintro e w3 ⟨v1, t1, v2, t2, rfl, hv, B5⟩
  have HT : Hid (Turn n W seed c l r ((dend n W).pick v1 v2)) := ⟨v1, t1, v2, t2, by rw [HMS.out]; exact hv.1, by rw [EH.out]; exact hv.2, rfl⟩
  clear hv hD2 hm
  generalize (dend n W).pick v1 v2 = q at *
  go_wp2_with fail
  go_ret2
  exact ⟨q, rfl, HT.out, B4.trans (B5.mono B4.size)⟩

/-! rows that are filled one by one -/
structure RowTo (w : World) (m n k : Nat) (K : Nat → Int) : Prop where
  c : ∀ i, i < n → w.cell? ⟨m, i, none⟩ = some (.int .i64 (if i < k then K i else 0))
  f : ∀ i, w.frozen? ⟨m, i, none⟩ = false
  lt : m < w.heap.size
theorem RowTo.new (w : World) (n : Nat) (t : TypeId) (K : Nat → Int) : RowTo (w.alloc (.cells (noughts n) t)) w.heap.size n 0 K :=
  ⟨fun i hi => by rw [if_neg (by omega)]; exact cell_new _ _ _ _ _ _ rfl (noughts_at n i hi), fun i => World.frozen?_alloc_at _ _ _ _ rfl, by simp⟩
theorem RowTo.below {w w' : World} {m n k : Nat} {K : Nat → Int} (h : RowTo w m n k K) (hB : Below w.heap.size w w') : RowTo w' m n k K :=
  ⟨fun i hi => draw_old hB (h.c i hi), fun i => by rw [hB.frozen (p := ⟨m, i, none⟩) h.lt]; exact h.f i, Nat.lt_of_lt_of_le h.lt hB.size⟩
theorem RowTo.next {w : World} {m n k : Nat} {K K' : Nat → Int} {x : Int} (h : RowTo w m n k K) (hk : k < n) (hK : ∀ i, i < k → K' i = K i) (hx : K' k = x) : RowTo (w.setCell ⟨m, k, none⟩ (.int .i64 x)) m n (k + 1) K' := by
  refine ⟨fun i hi => ?_, fun i => by rw [World.frozen?_setCell]; exact h.f i, by simp [World.setCell]; exact h.lt⟩
  by_cases e : i = k
  · subst e
    rw [World.cell?_setCell_same _ _ _ (h.c i hi), if_pos (by omega), hx]
  · rw [World.cell?_setCell_other _ _ _ _ (by simp <;> omega), h.c i hi]
    by_cases g : i < k
    · rw [if_pos g, if_pos (by omega), hK i g]
    · rw [if_neg g, if_neg (by omega)]
theorem RowTo.all {w : World} {m n : Nat} {K : Nat → Int} (h : RowTo w m n n K) : Ints w m 0 n K := fun i hi => by
  have := h.c i hi
  rw [if_pos hi] at this
  rw [Nat.zero_add]; exact this

/-! a picture of nothing -/
theorem make_tri (w : World) : (Instr.makeSlice 35 (.int .i64 3) (.int .i64 3)).run Tryz.prog w = .ok (.slice (some ⟨w.heap.size, 0, none⟩) 3 3) (w.alloc (.cells (noughts 3) 3)) := make_ints 3 (by omega) w
/-! the rounds of a level -/
end Go.Proofs.YtmbfdhekplnoaaaGreatDoor

namespace Go.Proofs.YtmbfdhekplnoaaaGreatDoor
open Go.RowKit

set_option maxRecDepth 100000 in
set_option maxHeartbeats 1000000 in
theorem rb_bad1 (a : Option Addr) (n cap seed : Nat) (c l r : Int) (h : ¬ TurnOk c l r) (A : Nat → Addr) (w : World) (v1 : w.cell? ⟨0, 0, none⟩ = some (sent (A 1))) :
    Calls Tryz.prog 136 #[.slice a n cap, .int .u64 seed, .int .i64 c, .int .i64 l, .int .i64 r] w fun e w' => e = .returned (.tuple #[.int .i64 0, sent (A 1)]) ∧ Below w.heap.size w w' := by
  by_cases ht : (0 ≤ c ∧ c ≤ 1048576) ∧ 0 ≤ l ∧ l ≤ 4194304
  · have T := time_yes c l ht.1.1 ht.1.2 ht.2.1 ht.2.2
    have R := round_no r (fun g => h ⟨ht.1, ht.2, g⟩)
    clear h ht
    go_enter Tryz.func136, Tryz.ntmps136
    go_wp2_with (first | (go_at_call 173; refine (T _).mono ?_; rintro e w' ⟨rfl, rfl⟩) | (go_at_call 215; refine (R _).mono ?_; rintro e w' ⟨rfl, rfl⟩))
    go_quiet (fail)
    go_wp2
    go_ret2
    exact ⟨rfl, below_drewN (Below.refl _ _) _⟩
  · have T := time_no c l ht
    clear h ht
    go_enter Tryz.func136, Tryz.ntmps136
    go_wp2_with (go_at_call 173; refine (T _).mono ?_; rintro e w' ⟨rfl, rfl⟩)
    go_quiet (fail)
    go_wp2
    go_ret2
    exact ⟨rfl, below_drewN (Below.refl _ _) _⟩
theorem drew_below {w w' : World} (h : Below w.drew.heap.size w.drew w') : Below w.heap.size w w' := ⟨h.os, h.tape, h.output, h.size, h.block⟩
theorem was_cellP {w w' : World} (hB : Below w.heap.size w w') {a : Addr} {v : Value} (h : w.cell? a = some v) : w'.cell? a = some v := by rw [hB.cell (cell_lt h)]; exact h
theorem PChAt.now {tag : Nat → Nat} {w : World} {cb pb sb kb g : Nat} {xs : Nat → Value} {C : Ch} (hC : C.Ok) (h : PChAt tag w cb pb sb kb xs C g) : ∃ m cap', w.cell? ⟨cb, 7, none⟩ = some (.slice (some ⟨m, 0, none⟩) 3 cap') ∧ m < w.heap.size ∧ Ints w m 0 3 C.pic := by
  have hl := hC.len
  have hW : (C.pics.drop C.cyc)[0]? = some C.pic := by
    rw [List.getElem?_drop, Nat.add_zero]
    unfold Ch.pic
    rw [List.getD_eq_getElem?_getD, List.getElem?_eq_getElem (by omega)]
    rfl
  obtain ⟨m, cap', e, tm, I⟩ := h.pics.one 0 _ (by omega) hW
  exact ⟨m, cap', by rw [h.c7, e], h.lt m (by rw [tm]; decide), I⟩
set_option maxRecDepth 100000 in
set_option maxHeartbeats 1000000 in
theorem pcb_turn {sb : Nat} (F : Nat → Prop) (cb : Nat) (C : Ch) (hC : C.Ok) (_hb : C.Few) (g : Nat) (r : Int) (hr : TurnOk C.cyc C.lev r) (A : Nat → Addr) (w : World) (_hL : ChLaid8 w A) (h : PCb sb F w cb C g) :
    Calls Tryz.prog 78 #[.pointer (some ⟨cb, 0, none⟩), .int .i64 r] w fun e w' => ∃ k, e = .returned (.tuple #[.int .i64 k, .nilIface]) ∧ Turn 3 C.pic C.seed C.cyc C.lev r k ∧ Below w.heap.size w w' := by
  obtain ⟨tag, pb, kb, xs, hf, h⟩ := h
  obtain ⟨m, cap', c7, lm, I⟩ := h.now hC
  have c3 := h.c3
  have c4 := h.c4
  have c5 := h.c5
  have hT := hide hC.turn
  have sd := hide hC.seed
  clear h
  go_enter Tryz.func78, Tryz.ntmps78
  go_wp2_with fail
  go_region_held3 (fun w' => w'.cell? ⟨cb, 7, none⟩ = some (.slice (some ⟨m, 0, none⟩) 3 cap') ∧ w'.cell? ⟨cb, 3, none⟩ = some (.int .u64 C.seed) ∧ w'.cell? ⟨cb, 4, none⟩ = some (.int .i64 C.cyc) ∧ w'.cell? ⟨cb, 5, none⟩ = some (.int .i64 C.lev)) (exact ⟨by assumption, by assumption, by assumption, by assumption⟩)
    (first
      | (go_at_call 136; refine (rb_fine m 0 3 cap' C.seed C.pic C.cyc C.lev r hr sd.out _ (by first | exact I | exact fun i hi => I i hi) (by first | exact lm | (simp; exact lm)) hT.out.1 hT.out.2).mono ?_; rintro e w5 ⟨k, rfl, T, hB5⟩; have d7 := was_cellP hB5 c7; have d3 := was_cellP hB5 c3; have d4 := was_cellP hB5 c4; have d5 := was_cellP hB5 c5))
  go_wp2_with fail
  go_ret2
  exact ⟨_, rfl, T, drew_below hB5⟩
set_option maxRecDepth 100000 in
set_option maxHeartbeats 1000000 in
theorem pcb_turn_bad {sb : Nat} (F : Nat → Prop) (cb : Nat) (C : Ch) (hC : C.Ok) (_hb : C.Few) (g : Nat) (r : Int) (hr : ¬ TurnOk C.cyc C.lev r) (A : Nat → Addr) (w : World) (hL : ChLaid8 w A) (h : PCb sb F w cb C g) :
    Calls Tryz.prog 78 #[.pointer (some ⟨cb, 0, none⟩), .int .i64 r] w fun e w' => ∃ ev, e = .returned (.tuple #[.int .i64 0, ev]) ∧ ErrIs A ev 2 ∧ Below w.heap.size w w' := by
  obtain ⟨tag, pb, kb, xs, hf, h⟩ := h
  obtain ⟨m, cap', c7, lm, I⟩ := h.now hC
  have c3 := h.c3
  have c4 := h.c4
  have c5 := h.c5
  have v1 := hL.v1
  clear h I
  go_enter Tryz.func78, Tryz.ntmps78
  go_wp2_with fail
  go_region_held3 (fun w' => w'.cell? ⟨cb, 7, none⟩ = some (.slice (some ⟨m, 0, none⟩) 3 cap') ∧ w'.cell? ⟨cb, 3, none⟩ = some (.int .u64 C.seed) ∧ w'.cell? ⟨cb, 4, none⟩ = some (.int .i64 C.cyc) ∧ w'.cell? ⟨cb, 5, none⟩ = some (.int .i64 C.lev)) (exact ⟨by assumption, by assumption, by assumption, by assumption⟩)
    (first
      | (go_at_call 136; refine (rb_bad1 _ 3 cap' C.seed C.cyc C.lev r hr A _ (by first | exact v1 | simpa using v1)).mono ?_; rintro e w5 ⟨rfl, hB5⟩; have d7 := was_cellP hB5 c7; have d3 := was_cellP hB5 c3; have d4 := was_cellP hB5 c4; have d5 := was_cellP hB5 c5))
  go_wp2_with fail
  go_ret2
  exact ⟨_, rfl, .inr ⟨1, by omega, rfl, rfl⟩, drew_below hB5⟩
end Go.Proofs.YtmbfdhekplnoaaaGreatDoor

namespace Go.Proofs.YtmbfdhekplnoaaaGreatDoor
open Go.RowKit

theorem small_wf (d : Int) (h0 : -9223372036854775808 ≤ d) (h1 : d ≤ 9223372036854775807) : (Lit.int .i64 d).wf = true := by
  have h : IntKind.i64.min ≤ d := h0
  simp [Lit.wf, h]
  omega
theorem moved_drew {F F' : Nat → Prop} {w w' : World} (h : Moved F F' w.drew w') : Moved F F' w w' := ⟨⟨h.kept.os, h.kept.tape, h.kept.output, h.kept.size, h.kept.block⟩, h.old⟩
structure BkBox (w : World) (nb pb sb : Nat) : Prop where
  e0 : w.cell? ⟨nb, 0, none⟩ = some (.pointer (some ⟨pb, 0, none⟩))
  e1 : w.cell? ⟨nb, 1, none⟩ = some (.pointer (some ⟨sb, 0, none⟩))
theorem box_new (w : World) (t : TypeId) (pb sb : Nat) : BkBox (w.alloc (.cells #[.pointer (some ⟨pb, 0, none⟩), .pointer (some ⟨sb, 0, none⟩)] t)) w.heap.size pb sb := ⟨by simp, by simp⟩
theorem BkBox.keptP {w w' : World} {nb pb sb : Nat} {H : Nat → Prop} (h : BkBox w nb pb sb) (hK : KeptP H w w') (hn : ¬ H nb) : BkBox w' nb pb sb := ⟨hK.old h.e0 hn, hK.old h.e1 hn⟩
theorem BkBox.below {w w' : World} {nb pb sb : Nat} (h : BkBox w nb pb sb) (hB : Below w.heap.size w w') : BkBox w' nb pb sb := ⟨was_cellP hB h.e0, was_cellP hB h.e1⟩
def BkEnd (G : Nat → Prop) (pb sb g : Nat) (C' : Ch) (c : Int) (A : Nat → Addr) (w : World) (e : Ending) (w' : World) : Prop := ∃ ev G', e = .returned ev ∧ ErrIs A ev c ∧ BksAt G' w' pb sb C' (g + 2000) ∧ Moved (bksOwn pb G) (bksOwn pb G') w w'
def BkEndN (G : Nat → Prop) (pb sb g : Nat) (C' : Ch) (n c : Int) (A : Nat → Addr) (w : World) (e : Ending) (w' : World) : Prop := ∃ ev G', e = .returned (.tuple #[.int .i64 n, ev]) ∧ ErrIs A ev c ∧ BksAt G' w' pb sb C' (g + 2000) ∧ Moved (bksOwn pb G) (bksOwn pb G') w w'

set_option maxRecDepth 100000 in
set_option maxHeartbeats 1000000 in
theorem bks_stake (G : Nat → Prop) (pb sb : Nat) (C : Ch) (hp' : C.p.Ok) (hs : C.s.Ok) (g : Nat) (hg : g ≤ 850000) (o b n : Int) (wo : (Lit.int .i64 o).wf = true) (A : Nat → Addr) (w : World) (hL : ChLaid8 w A) (h : BksAt G w pb sb C g) :
    Calls Tryz.prog 129 #[.agg #[.pointer (some ⟨pb, 0, none⟩), .pointer (some ⟨sb, 0, none⟩)], .int .i64 o, .int .i64 b, .int .i64 n] w (BkEnd G pb sb g (C.stake o b n) (C.stakeC o b n) A w) := by
  have B : Below w.heap.size w (w.alloc (.cells #[.pointer (some ⟨pb, 0, none⟩), .pointer (some ⟨sb, 0, none⟩)] 179)) := (Below.refl _ _).alloc (Nat.le_refl _) _
  have X := box_new w 179 pb sb
  have e0 := X.e0
  have h1 := h.below B
  have L1 := hL.below B
  have M1 : Moved (bksOwn pb G) (bksOwn pb G) w (w.alloc (.cells #[.pointer (some ⟨pb, 0, none⟩), .pointer (some ⟨sb, 0, none⟩)] 179)) := ⟨KeptP.of_below B, fun _ _ q => q⟩
  have nn : ¬ bksOwn pb G w.heap.size := fun q => by have := h.lt _ q; omega
  have P := pu_out pb C.p hp' o n A _ L1.pur h1.p
  clear h hL B
  go_enter Tryz.func129, Tryz.ntmps129
  go_wp2_with fail
  generalize hn : w.heap.size = nb at *
  generalize w.alloc (.cells #[.pointer (some ⟨pb, 0, none⟩), .pointer (some ⟨sb, 0, none⟩)] 179) = w1 at *
  refine P.mono ?_
  rintro e w2 ⟨ev, rfl, hE, hp, hK⟩
  have h2 := h1.purse hp hK
  have M2 := h1.purseMoved hK
  have X2 := X.keptP M2.kept nn
  have L2 := h1.laid L1 M2.kept
  have M12 := M1.trans M2
  have e1 := X2.e1
  have lt2 := h2.lt
  clear P hp hK e0 X L1 M1 M2
  by_cases ho : C.p.outC o n = 0
  · obtain rfl := hE.nil ho
    have J := ps_join G sb C.s hs g (by omega) o b n wo A w2 L2.stk h2.s
    have H2 := hide h2
    clear hE h2 h1
    go_wp2_with fail
    refine J.mono ?_
    rintro e w3 ⟨ev3, G3, rfl, hE3, hS, hM⟩
    have h3 := H2.out.stakes hS hM
    have M3 := H2.out.stakesMoved hM
    have X3 := X2.keptP M3.kept nn
    have L3 := H2.out.laid L2 M3.kept
    have M13 := M12.trans M3
    have f0 := X3.e0
    clear J H2 hS hM X2 e1 L2 M12
    by_cases hj : C.s.joinC o b n = 0
    · obtain rfl := hE3.nil hj
      have e1 : C.stakeC o b n = 0 := by unfold Ch.stakeC; rw [if_neg (not_not_intro ho)]; exact hj
      have e2 : C.stake o b n = { C with p := C.p.out o n, s := C.s.join o b n } := if_pos e1
      have H3 := hide h3
      clear h3
      go_wp2_with fail
      go_ret
      exact ⟨_, _, rfl, .inl ⟨e1, rfl⟩, e2 ▸ H3.out.more (by omega), M13⟩
    · obtain ⟨j, rfl⟩ := hE3.err hj
      have e1 : C.stakeC o b n = C.s.joinC o b n := by unfold Ch.stakeC; rw [if_neg (not_not_intro ho)]
      have e2 : C.stake o b n = C := if_neg (by rw [e1]; exact hj)
      have e3 : C.s.join o b n = C.s := Sk.join_same hj
      have I := pu_in pb (C.p.out o n) (hp'.out' o n) o n A w3 L3.pur h3.p
      have H3 := hide h3
      clear h3
      go_wp2_with fail
      refine I.mono ?_
      rintro e w4 ⟨ev4, rfl, _, hp4, hK4⟩
      have h4 := H3.out.purse hp4 hK4
      have M4 := H3.out.purseMoved hK4
      rw [Pu.out_in hp' ho] at h4
      have H4 := hide h4
      clear h4 hp4 hK4 I
      go_wp2_with fail
      go_ret
      refine ⟨_, _, rfl, e1 ▸ hE3, ?_, M13.trans M4⟩
      rw [e2]
      have := H4.out.more (g' := g + 2000) (by omega)
      rw [e3] at this
      exact this
  · obtain ⟨j, rfl⟩ := hE.err ho
    have e1 : C.stakeC o b n = C.p.outC o n := if_pos ho
    have e2 : C.stake o b n = C := if_neg (by rw [e1]; exact ho)
    have e3 : C.p.out o n = C.p := if_neg ho
    have H2 := hide h2
    clear h2 h1
    go_wp2_with fail
    go_ret
    refine ⟨_, _, rfl, e1 ▸ hE, ?_, M12⟩
    rw [e2]
    have := H2.out.more (g' := g + 2000) (by omega)
    rw [e3] at this
    exact this
set_option maxRecDepth 100000 in
set_option maxHeartbeats 1000000 in
theorem bks_free (G : Nat → Prop) (pb sb : Nat) (C : Ch) (hC : C.Ok) (hk : C.s.K.length ≤ 900) (g : Nat) (hg : g ≤ 850000) (o : Int) (wo : (Lit.int .i64 o).wf = true) (wc : (Lit.int .i64 (C.cyc : Int)).wf = true) (A : Nat → Addr) (w : World) (hL : ChLaid8 w A) (h : BksAt G w pb sb C g) :
    Calls Tryz.prog 134 #[.agg #[.pointer (some ⟨pb, 0, none⟩), .pointer (some ⟨sb, 0, none⟩)], .int .i64 o, .int .i64 C.cyc] w (BkEndN G pb sb g (C.free o) (C.s.freeN o C.cyc) (C.s.freeC o C.cyc) A w) := by
  have B : Below w.heap.size w (w.alloc (.cells #[.pointer (some ⟨pb, 0, none⟩), .pointer (some ⟨sb, 0, none⟩)] 179)) := (Below.refl _ _).alloc (Nat.le_refl _) _
  have X := box_new w 179 pb sb
  have e1 := X.e1
  have h1 := h.below B
  have L1 := hL.below B
  have M1 : Moved (bksOwn pb G) (bksOwn pb G) w (w.alloc (.cells #[.pointer (some ⟨pb, 0, none⟩), .pointer (some ⟨sb, 0, none⟩)] 179)) := ⟨KeptP.of_below B, fun _ _ q => q⟩
  have nn : ¬ bksOwn pb G w.heap.size := fun q => by have := h.lt _ q; omega
  have P := ps_free G sb C.s hC.s hk g (by omega) o C.cyc wo wc A _ L1.stk h1.s
  clear h hL B
  go_enter Tryz.func134, Tryz.ntmps134
  go_wp2_with fail
  generalize hn : w.heap.size = nb at *
  generalize w.alloc (.cells #[.pointer (some ⟨pb, 0, none⟩), .pointer (some ⟨sb, 0, none⟩)] 179) = w1 at *
  refine P.mono ?_
  rintro e w2 ⟨ev, G2, rfl, hE, hS, hM⟩
  have h2 := h1.stakes hS hM
  have M2 := h1.stakesMoved hM
  have X2 := X.keptP M2.kept nn
  have L2 := h1.laid L1 M2.kept
  have M12 := M1.trans M2
  have e0 := X2.e0
  clear P hS hM e1 X L1 M1 M2 h1
  by_cases hj : C.s.freeC o C.cyc = 0
  · obtain rfl := hE.nil hj
    have e2 : C.free o = { C with p := C.p.in' o (C.s.freeN o C.cyc), s := C.s.free o C.cyc } := if_pos hj
    have I := pu_in pb C.p hC.p o (C.s.freeN o C.cyc) A w2 L2.pur h2.p
    have H2 := hide h2
    clear h2
    go_wp2_with fail
    refine I.mono ?_
    rintro e w3 ⟨ev3, rfl, _, hp, hK⟩
    have h3 := H2.out.purse hp hK
    have M3 := H2.out.purseMoved hK
    have H3 := hide h3
    clear h3 hp hK I e0
    go_wp2_with fail
    go_ret2
    exact ⟨_, _, rfl, .inl ⟨hj, rfl⟩, e2 ▸ H3.out.more (by omega), M12.trans M3⟩
  · obtain ⟨j, rfl⟩ := hE.err hj
    have e2 : C.free o = C := if_neg hj
    have e3 : C.s.free o C.cyc = C.s := hC.s.free_same hj
    have e4 := hide (Sk.freeN_same hj)
    have H2 := hide h2
    clear h2
    rw [e4.out]
    go_wp2_with fail
    go_ret2
    refine ⟨_, _, ret_pair e4.out.symm _, hE, ?_, M12⟩
    rw [e2]
    have := H2.out.more (g' := g + 2000) (by omega)
    rw [e3] at this
    exact this
end Go.Proofs.YtmbfdhekplnoaaaGreatDoor
