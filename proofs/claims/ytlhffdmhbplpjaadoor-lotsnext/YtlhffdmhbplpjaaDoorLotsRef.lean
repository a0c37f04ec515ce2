/-
  The document's lots by their contracts.
-/
import Derived.Test.YtlhffdmhbplpjaaDoorLotsMix
namespace Go.Proofs.YtlhffdmhbplpjaaDoor
open Go.RowKit

set_option maxRecDepth 100000 in
theorem ref_next (b s : Nat) (w : World) (h : LotAt w b s) :
    Calls Tryd.prog 63 #[.pointer (some ⟨b, 0, none⟩)] w fun e w' => e = .returned (.int .u64 (nextL s)) ∧ w' = w.setCell ⟨b, 0, none⟩ (.int .u64 (nextS s)) := by
  have c := h.c
  have f := h.f
  go_enter Tryd.func63, Tryd.ntmps63
  go_wp2
  go_ret
  have d1 : ∀ a : Nat, a < W64 → IntKind.u64.wrap ((a : Int).tdiv 1073741824) = (a : Int) / 1073741824 := fun a ha => div_word a 1073741824 ha
  have d2 : ∀ a : Nat, a < W64 → IntKind.u64.wrap ((a : Int).tdiv 134217728) = (a : Int) / 134217728 := fun a ha => div_word a 134217728 ha
  have d3 : ∀ a : Nat, a < W64 → IntKind.u64.wrap ((a : Int).tdiv 2147483648) = (a : Int) / 2147483648 := fun a ha => div_word a 2147483648 ha
  rw [next_state s, d1 _ (nextS_lt s), word_1 _ (nextS_lt s), d2 _ (mod64 _), word_2 _ (mod64 _), d3 _ (mod64 _), word_3 _ (mod64 _)]
  exact ⟨rfl, rfl⟩

set_option maxRecDepth 100000 in
set_option maxHeartbeats 1000000 in
theorem ref_below (b s n : Nat) (w : World) (h : LotAt w b s) (n1 : 1 ≤ n) (nM : n ≤ 1125899906842624) :
    Calls Tryd.prog 64 #[.pointer (some ⟨b, 0, none⟩), .int .i64 n] w fun e w' => ∃ v t, e = .returned (.int .i64 (v : Nat)) ∧ Bel n s v t ∧ LotAt w' b t ∧ Kept [b] w w' := by
  go_enter Tryd.func64, Tryd.ntmps64
  go_wp2
  go_loopw [4] (fun r wr => r = .int .i64 0 ∧ ∃ q, LotAt wr b q ∧ Kept [b] w wr ∧ Hid (∀ v t, Bel n q v t → Bel n s v t)) (fun _ wr => toZero (stateOf wr b))
  case atStart => exact ⟨rfl, s, h, Kept.refl _ _, fun _ _ h => h⟩
  case round =>
    obtain ⟨rfl, q, hq, hK, hR⟩ := hrel
    clear h
    have N := ref_next b q wr hq
    have hq' := hq.set (nextS q) (nextS_lt q)
    have hK' := hK.setCell (p := ⟨b, 0, none⟩) (by simp) (.int .u64 (nextS q))
    have hl := nextL_lt q
    obtain ⟨X, Z, R, N', hX, hN, hZ, hR', z0, z1, r0, r1, r2, m1, m2, w1, w2, ht, hmt⟩ : ∃ X Z R N' : Int, (nextL q : Int) = X ∧ (n : Int) = N' ∧ ((nextL q / 2 : Nat) : Int) = Z ∧ ((nextL q / 2 % n : Nat) : Int) = R ∧ 0 ≤ Z ∧ Z ≤ 9223372036854775807 ∧ 0 ≤ R ∧ R ≤ Z ∧ R < N' ∧ 1 ≤ N' ∧ N' ≤ 1125899906842624 ∧
        IntKind.u64.wrap (X.tdiv 2) = Z ∧ IntKind.u64.wrap (X / 2) = Z ∧ Z.tmod N' = R ∧ (Z - R ≤ 9223372036854775807 - N' + 1 ↔ nextL q / 2 < most n) := by
      have hz : IntKind.u64.wrap ((nextL q : Int).tdiv 2) = ((nextL q / 2 : Nat) : Int) := div_word (nextL q) 2 hl
      have hm := Nat.mod_le (nextL q / 2) n
      have hn := Nat.mod_lt (nextL q / 2) (show 0 < n by omega)
      have hb : nextL q < 18446744073709551616 := hl
      have hz' : IntKind.u64.wrap ((nextL q : Int) / 2) = ((nextL q / 2 : Nat) : Int) := by rw [IntKind.wrap_u64]; omega
      have ht : ((nextL q / 2 : Nat) : Int).tmod (n : Int) = ((nextL q / 2 % n : Nat) : Int) := by rw [Int.tmod_eq_emod_of_nonneg (by omega)]; exact (Int.natCast_emod _ _).symm
      have hmt := most_test (nextL q / 2) n (by omega)
      exact ⟨_, _, _, _, rfl, rfl, rfl, rfl, by omega, by omega, by omega, by omega, by omega, by omega, by omega, hz, hz', ht, by rw [← hmt]; omega⟩
    by_cases hlt : nextL q / 2 < most n
    · have hB : Hid (Bel n s (nextL q / 2 % n) (nextS q)) := hR.out _ _ (Bel.take q hlt)
      have g := hmt.2 hlt
      have HR := hide hR'
      rw [hX] at N
      clear hmt hR hlt hl hR' hZ hX n1 nM
      rw [hN]
      clear hN
      go_wp2_with (go_at_call 63; refine N.mono ?_; rintro e w1 ⟨rfl, rfl⟩)
      go_ret
      exact ⟨_, nextS q, ret_int HR.out.symm, hB.out, hq', hK'⟩
    · have hR2 : Hid (∀ v t, Bel n (nextS q) v t → Bel n s v t) := fun v t h => hR.out v t (Bel.more q v t hlt h)
      have g : ¬ Z - R ≤ 9223372036854775807 - N' + 1 := fun g => hlt (hmt.1 g)
      have hf := hide (falls hq.lt n1 (by omega) hlt)
      have hs0 := hide hq.state
      have hs1 := hide hq'.state
      rw [hX] at N
      clear hmt hR hlt hl hR' hZ hX n1 nM
      rw [hN]
      clear hN
      go_wp2_with (go_at_call 63; refine N.mono ?_; rintro e w1 ⟨rfl, rfl⟩)
      go_roundw
      case rel => exact ⟨rfl, nextS q, hq', hK', hR2⟩
      case measure => rw [hs0.out, hs1.out]; exact hf.out
set_option maxRecDepth 100000 in
set_option maxHeartbeats 1000000 in
theorem ref_mix (a : Option Addr) (b off n cap seed : Nat) (W : Nat → Int) (hs : seed < W64) (hn : n ≤ 1000) (w : World) (ha : Hid (0 < n → a = some ⟨b, off, none⟩)) (hb : Hid (0 < n → b < w.heap.size)) (hI : Ints w b off n W) :
    Calls Tryd.prog 66 #[.int .u64 seed, .slice a n cap] w fun e w' => e = .returned (.int .u64 (mixTo W seed n)) ∧ Below w.heap.size w w' := by
  go_enter Tryd.func66, Tryd.ntmps66
  go_wp2
  go_loopw [0, 5] (fun r i wr => ∃ k : Nat, k ≤ n ∧ i = .int .i64 k ∧ r = .int .u64 (mixTo W seed k) ∧ Below w.heap.size w wr) (fun _ i _ => n - (intOf i).toNat)
  case atStart => exact ⟨0, Nat.zero_le _, rfl, rfl, Below.refl _ _⟩
  case round =>
    obtain ⟨k, hk, rfl, rfl, hB⟩ := hrel
    by_cases hlt : k < n
    · have c0 := hI.below hB (hb.out (by omega)) k hlt
      obtain rfl := ha.out (by omega)
      have hm := mixTo_lt W seed hs k
      have hu := toU_lt (W k)
      have hx := xor_lt64 hm hu
      have e1 : IntKind.u64.wrap (W k) = ((toU (W k) : Nat) : Int) := by rw [toU_cast, IntKind.wrap_u64]
      have e2 : bits .xor .u64 ((mixTo W seed k : Nat) : Int) ((toU (W k) : Nat) : Int) = ((mixTo W seed k ^^^ toU (W k) : Nat) : Int) := bits_xor_u64_nat _ _ hm hu
      have hL := lot_new wr (mixTo W seed k ^^^ toU (W k)) hx 89
      have E : Hid (nextL (mixTo W seed k ^^^ toU (W k)) = mixTo W seed (k + 1)) := rfl
      clear hI hm hu hx ha hb
      generalize mixTo W seed k ^^^ toU (W k) = y at *
      generalize toU (W k) = u at *
      generalize mixTo W seed k = m at *
      have hB3 := hB.alloc hB.size (.cells #[.int .u64 (nextS y)] 89)
      go_wp2_with fail
      refine (ref_next wr.heap.size y _ hL).mono ?_
      rintro e w2 ⟨rfl, rfl⟩
      go_wp2_with fail
      go_roundw
      case rel => exact ⟨k + 1, by omega, by go_num, by rw [E.out], hB3⟩
      case measure => simp [intOf]; omega
    · obtain rfl : n = k := by omega
      go_wp2_with fail
      go_ret
      exact ⟨rfl, hB⟩
end Go.Proofs.YtlhffdmhbplpjaaDoor
