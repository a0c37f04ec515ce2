/-
  math/bits.Mul64, Len64, LeadingZeros64 of this program by their contracts: Go's own text is walked.
  Plain arithmetic of the long division by two steps: no program in sight.
-/
import Derived.Test.YtaihcceobnfmhaaGreatDoorLen
import Derived.WalkKit
import Derived.Lib.Mul64
import Derived.Laws.Bits64b
import Derived.Outline
namespace Go.Proofs.YtaihcceobnfmhaaGreatDoor
open Go.RowKit Go.Lib

/-- a product's upper word, and its lower one -/
def hiW (p : Int) : Int := p / 18446744073709551616
def loW (p : Int) : Int := p % 18446744073709551616
theorem hiW_nat (n : Nat) : hiW (n : Int) = ((n / 18446744073709551616 : Nat) : Int) := by unfold hiW; omega
theorem loW_nat (n : Nat) : loW (n : Int) = ((n % 18446744073709551616 : Nat) : Int) := by unfold loW; omega

theorem maskN (a : Nat) (ha : a < 18446744073709551616) : bits .and .u64 (a : Int) 4294967295 = ((a % 4294967296 : Nat) : Int) := by
  have h := bits_and_u64_nat a 4294967295 ha (by omega)
  have e : a &&& 4294967295 = a % 4294967296 := Nat.and_two_pow_sub_one_eq_mod a 32
  rw [e] at h
  exact h
theorem divN (a : Nat) : (a : Int) / 4294967296 = ((a / 4294967296 : Nat) : Int) := by omega
theorem mulN (a b : Nat) : (a : Int) * (b : Int) = ((a * b : Nat) : Int) := (Int.natCast_mul a b).symm
theorem addN (a b : Nat) : (a : Int) + (b : Int) = ((a + b : Nat) : Int) := (Int.natCast_add a b).symm
theorem wrapN (a : Nat) (ha : a < 18446744073709551616) : IntKind.u64.wrap (a : Int) = (a : Int) := by rw [IntKind.wrap_u64]; omega
theorem wrapM (a : Nat) : IntKind.u64.wrap (a : Int) = ((a % 18446744073709551616 : Nat) : Int) := by rw [IntKind.wrap_u64]; omega

set_option maxHeartbeats 1000000 in
theorem mul64_nat (x y : Nat) (hx : x < 18446744073709551616) (hy : y < 18446744073709551616) (w : World) :
    Calls Tryz.prog 167 #[.int .u64 x, .int .u64 y] w fun e w' => e = .returned (.tuple #[.int .u64 ((x * y / 18446744073709551616 : Nat) : Int), .int .u64 ((x * y % 18446744073709551616 : Nat) : Int)]) ∧ w' = w := by
  obtain ⟨bd, bt, bw, hhi⟩ := Lib.mul64_hi x y hx hy
  have ba := Lib.half_mul_le (a := x / 4294967296) (b := y / 4294967296) (by omega) (by omega)
  have bb := Lib.half_mul_le (a := x / 4294967296) (b := y % 4294967296) (by omega) (by omega)
  have bc := Lib.half_mul_le (a := x % 4294967296) (b := y / 4294967296) (by omega) (by omega)
  have ba' : x / 4294967296 * (y / 4294967296) < 18446744073709551616 := by omega
  have bb' : x / 4294967296 * (y % 4294967296) < 18446744073709551616 := by omega
  have bc' : x % 4294967296 * (y / 4294967296) < 18446744073709551616 := by omega
  have bh1 : x / 4294967296 * (y / 4294967296) + (x / 4294967296 * (y % 4294967296) + x % 4294967296 * (y % 4294967296) / 4294967296) / 4294967296 < 18446744073709551616 := by omega
  have bh : x / 4294967296 * (y / 4294967296) + (x / 4294967296 * (y % 4294967296) + x % 4294967296 * (y % 4294967296) / 4294967296) / 4294967296 + ((x / 4294967296 * (y % 4294967296) + x % 4294967296 * (y % 4294967296) / 4294967296) % 4294967296 + x % 4294967296 * (y / 4294967296)) / 4294967296 < 18446744073709551616 := by omega
  go_enter Tryz.func167, Tryz.ntmps167
  go_wp2
  simp only [maskN x hx, maskN y hy, divN, mulN, addN, wrapN _ bd, wrapN _ bb', wrapN _ bt, maskN _ bt, wrapN _ bc', wrapN _ bw, wrapN _ ba', wrapN _ bh1, wrapN _ bh, wrapM (x * y)]
  rw [hhi]
  go_ret2
  exact ⟨rfl, rfl⟩

/-- Mul64, over Int. -/
theorem mul64 (x y : Int) (hx0 : 0 ≤ x) (hx : x ≤ 18446744073709551615) (hy0 : 0 ≤ y) (hy : y ≤ 18446744073709551615) (w : World) :
    Calls Tryz.prog 167 #[.int .u64 x, .int .u64 y] w fun e w' => e = .returned (.tuple #[.int .u64 (hiW (x * y)), .int .u64 (loW (x * y))]) ∧ w' = w := by
  obtain ⟨a, rfl⟩ := Int.eq_ofNat_of_zero_le hx0
  obtain ⟨b, rfl⟩ := Int.eq_ofNat_of_zero_le hy0
  rw [mulN, hiW_nat, loW_nat]
  exact mul64_nat a b (by omega) (by omega) w

theorem bitLen_le64 (x : Int) (h0 : 0 ≤ x) (h1 : x ≤ 18446744073709551615) : Lib.bitLen x.toNat ≤ 64 := Lib.bitLen_le x.toNat 64 (by omega) (by omega)
theorem leadingZeros64 (x : Int) (w : World) (h0 : 0 ≤ x) (h1 : x ≤ 18446744073709551615) :
    Calls Tryz.prog 198 #[.int .u64 x] w fun e w' => e = .returned (.int .i64 (64 - (Lib.bitLen x.toNat : Int))) ∧ w' = w := by
  have l := bitLen_le64 x h0 h1
  go_enter Tryz.func198, Tryz.ntmps198
  go_wp2_with (go_at_call 208; refine (len64 x _ h0 h1).mono ?_; rintro e w' ⟨rfl, rfl⟩)
  go_ret
  exact ⟨rfl, rfl⟩
end Go.Proofs.YtaihcceobnfmhaaGreatDoor

namespace Go.Proofs.YtaihcceobnfmhaaGreatDoor
open Go.RowKit
/-- one step of the long division: the first guess -/
theorem kn_init (B yn1 yn0 u un : Int) (h0 : 0 < yn1) (hB : 0 < B) (hn0 : 0 ≤ yn0) (h1 : yn0 < B) (h2 : B ≤ 2 * yn1) (hu0 : 0 ≤ u) (hu : u < yn1 * B + yn0) (hun : un < B) :
    u = (u / yn1) * yn1 + (u - (u / yn1) * yn1) ∧ 0 ≤ u - (u / yn1) * yn1 ∧ u - (u / yn1) * yn1 < yn1 ∧ (u * B + un) / (yn1 * B + yn0) ≤ u / yn1 ∧ u / yn1 ≤ B + 1 ∧ 0 ≤ u / yn1 := by
  have hy : 0 < yn1 * B + yn0 := by have := Int.mul_pos h0 hB; omega
  have a := Int.mul_ediv_add_emod u yn1
  have b := Int.emod_lt_of_pos u h0
  have c := Int.emod_nonneg u (Int.ne_of_gt h0)
  have d := Int.ediv_nonneg hu0 (Int.le_of_lt h0)
  rw [Int.mul_comm] at a
  refine ⟨by omega, by omega, by omega, ?_, ?_, d⟩
  · rw [Int.le_ediv_iff_mul_le h0]
    have hQ := Int.ediv_mul_le (u * B + un) (Int.ne_of_gt hy)
    have hQ0 : 0 ≤ (u * B + un) / (yn1 * B + yn0) ∨ (u * B + un) / (yn1 * B + yn0) < 0 := by omega
    generalize (u * B + un) / (yn1 * B + yn0) = Q at *
    rcases hQ0 with hQ0 | hQ0
    · rw [Int.mul_add, ← Int.mul_assoc] at hQ
      have := Int.mul_nonneg hQ0 hn0
      have h3 : Q * yn1 * B < (u + 1) * B := by rw [Int.add_mul]; omega
      have := Int.lt_of_mul_lt_mul_right h3 (Int.le_of_lt hB)
      omega
    · have : Q * yn1 ≤ 0 := Int.mul_nonpos_of_nonpos_of_nonneg (by omega) (by omega)
      omega
  · have : u / yn1 < B + 2 := by
      rw [Int.ediv_lt_iff_lt_mul h0, Int.add_mul, Int.mul_comm B yn1]; omega
    omega
theorem kn_dec (B yn1 yn0 u un q r : Int) (hB : 0 < B) (hy : 0 < yn1 * B + yn0) (hu : u < yn1 * B + yn0) (hun : un < B) (he : u = q * yn1 + r)
    (ht : B ≤ q ∨ B * r + un < q * yn0) :
    (u * B + un) / (yn1 * B + yn0) ≤ q - 1 ∧ u = (q - 1) * yn1 + (r + yn1) := by
  have hlt : (u * B + un) / (yn1 * B + yn0) < q := by
    rcases ht with ht | ht
    · refine Int.lt_of_lt_of_le ?_ ht
      rw [Int.ediv_lt_iff_lt_mul hy]
      have : (u + 1) * B ≤ (yn1 * B + yn0) * B := Int.mul_le_mul_of_nonneg_right (by omega) (by omega)
      rw [Int.add_mul] at this
      rw [Int.mul_comm B]; omega
    · rw [Int.ediv_lt_iff_lt_mul hy, he, Int.add_mul, Int.mul_add, Int.mul_assoc, Int.mul_comm r B]; omega
  generalize (u * B + un) / (yn1 * B + yn0) = Q at *
  refine ⟨by omega, ?_⟩
  rw [he, Int.sub_mul]; omega
theorem kn_stop (B yn1 yn0 u un q r : Int) (hy : 0 < yn1 * B + yn0) (he : u = q * yn1 + r)
    (hQ : (u * B + un) / (yn1 * B + yn0) ≤ q) (ht : q * yn0 ≤ B * r + un) :
    q = (u * B + un) / (yn1 * B + yn0) := by
  refine Int.le_antisymm ?_ hQ
  rw [Int.le_ediv_iff_mul_le hy, he, Int.add_mul, Int.mul_add, Int.mul_assoc, Int.mul_comm r B]; omega
theorem kn_break (B yn1 yn0 u un q r : Int) (hB : 0 < B) (hun : 0 ≤ un) (hy : 0 < yn1 * B + yn0) (hn0 : 0 ≤ yn0) (h1 : yn0 < B) (he : u = q * yn1 + r)
    (hQ : (u * B + un) / (yn1 * B + yn0) ≤ q) (hr : B ≤ r) (hq : q ≤ B) :
    q = (u * B + un) / (yn1 * B + yn0) := by
  refine kn_stop B yn1 yn0 u un q r hy he hQ ?_
  have a : q * yn0 ≤ B * yn0 := Int.mul_le_mul_of_nonneg_right hq hn0
  have a' : B * yn0 ≤ B * B := Int.mul_le_mul_of_nonneg_left (by omega) (by omega)
  have b : B * B ≤ B * r := Int.mul_le_mul_of_nonneg_left hr (by omega)
  omega
/-- both steps together are the division -/
theorem kn_two (B Y u u1 u0 : Int) (hY : 0 < Y) :
    ((u * B + u1) / Y) * B + (((u * B + u1) % Y) * B + u0) / Y = ((u * B + u1) * B + u0) / Y ∧ (((u * B + u1) % Y) * B + u0) % Y = ((u * B + u1) * B + u0) % Y := by
  have a := Int.mul_ediv_add_emod (u * B + u1) Y
  have e : (u * B + u1) * B + u0 = (((u * B + u1) % Y) * B + u0) + Y * (((u * B + u1) / Y) * B) := by
    generalize (u * B + u1) % Y = R at *
    generalize (u * B + u1) / Y = Q at *
    rw [← a, Int.add_mul, Int.mul_assoc]; omega
  rw [e]
  refine ⟨?_, ?_⟩
  · rw [Int.add_mul_ediv_left _ _ (Int.ne_of_gt hY)]; omega
  · rw [Int.add_mul_emod_self_left]
theorem dv_facts (hi lo y p c : Int) (hp : 0 < p) (hc : 0 < c) (hcp : c * p = 18446744073709551616) (h0 : 0 ≤ hi) (h1 : hi < y) (l0 : 0 ≤ lo) (l1 : lo < 18446744073709551616) :
    0 ≤ lo / c ∧ lo / c < p ∧ (hi * p + lo / c) * 18446744073709551616 + (lo * p) % 18446744073709551616 = (hi * 18446744073709551616 + lo) * p ∧ hi * p + lo / c < y * p ∧ 0 ≤ hi * p := by
  have e : (lo * p) / 18446744073709551616 = lo / c := by rw [← hcp]; exact Int.mul_ediv_mul_of_pos_left lo c hp
  have d := Int.mul_ediv_add_emod (lo * p) 18446744073709551616
  have a0 : 0 ≤ lo / c := Int.ediv_nonneg l0 (Int.le_of_lt hc)
  have a1 : lo / c < p := by rw [Int.ediv_lt_iff_lt_mul hc, Int.mul_comm, hcp]; exact l1
  have a2 : 0 ≤ hi * p := Int.mul_nonneg h0 (Int.le_of_lt hp)
  have a3 : (hi + 1) * p ≤ y * p := Int.mul_le_mul_of_nonneg_right (by omega) (Int.le_of_lt hp)
  rw [Int.add_mul, Int.one_mul] at a3
  refine ⟨a0, a1, ?_, by omega, a2⟩
  rw [e] at d
  rw [Int.add_mul (hi * p), Int.add_mul (hi * _), ← d, Int.mul_right_comm hi p, Int.mul_comm (lo / c)]
  omega
theorem dv_end (N y p : Int) (hp : 0 < p) : (N * p) / (y * p) = N / y ∧ (N * p) % (y * p) / p = N % y := by
  refine ⟨Int.mul_ediv_mul_of_pos_left N y hp, ?_⟩
  rw [Int.mul_comm N p, Int.mul_comm y p, Int.mul_emod_mul_of_pos _ _ hp, Int.mul_ediv_cancel_left _ (Int.ne_of_gt hp)]
theorem bl_up : ∀ f x : Nat, x < 2 ^ f → x < 2 ^ Lib.bitLenAux f x
  | 0, x, h => by simpa [Lib.bitLenAux] using h
  | f + 1, x, h => by
    unfold Lib.bitLenAux
    by_cases h0 : x = 0
    · simp [h0]
    · rw [if_neg h0]
      have := bl_up f (x / 2) (by rw [Nat.pow_succ] at h; omega)
      rw [Nat.add_comm, Nat.pow_succ]; omega
theorem bl_bounds (x : Nat) (h0 : 0 < x) (h : x < 18446744073709551616) : ∃ s : Nat, s ≤ 63 ∧ Lib.bitLen x = 64 - s ∧ 9223372036854775808 ≤ x * 2 ^ s ∧ x * 2 ^ s < 18446744073709551616 := by
  have u := bl_up 64 x h
  have l := Lib.bitLen_le x 64 (by omega) h
  have k0 : 0 < Lib.bitLen x := by
    rcases Nat.eq_zero_or_pos (Lib.bitLen x) with e | e
    · have : x < 2 ^ Lib.bitLen x := u
      rw [e] at this; omega
    · exact e
  have lo : 2 ^ (Lib.bitLen x - 1) ≤ x := by
    rcases Nat.lt_or_ge x (2 ^ (Lib.bitLen x - 1)) with e | e
    · have := Lib.bitLen_le x (Lib.bitLen x - 1) (by omega) e
      omega
    · exact e
  have u' : x < 2 ^ Lib.bitLen x := u
  refine ⟨64 - Lib.bitLen x, by omega, by omega, ?_, ?_⟩
  · have a := Nat.mul_le_mul_right (2 ^ (64 - Lib.bitLen x)) lo
    rw [← Nat.pow_add] at a
    have e : Lib.bitLen x - 1 + (64 - Lib.bitLen x) = 63 := by omega
    rw [e] at a
    exact a
  · have a := Nat.mul_lt_mul_of_pos_right u' (Nat.two_pow_pos (64 - Lib.bitLen x))
    rw [← Nat.pow_add] at a
    have e : Lib.bitLen x + (64 - Lib.bitLen x) = 64 := by omega
    rw [e] at a
    exact a
theorem mask_int (a : Int) (h0 : 0 ≤ a) (h : a < 18446744073709551616) : bits .and .u64 a 4294967295 = a % 4294967296 := by
  obtain ⟨n, rfl⟩ := Int.eq_ofNat_of_zero_le h0
  rw [maskN n (by omega)]; omega
theorem or_int (a b : Int) (s : Nat) (h0 : 0 ≤ a) (hb0 : 0 ≤ b) (hb : b < 2 ^ s) (h : a * 2 ^ s + b < 18446744073709551616) : bits .or .u64 (IntKind.u64.wrap (a * 2 ^ s)) b = a * 2 ^ s + b := by
  obtain ⟨n, rfl⟩ := Int.eq_ofNat_of_zero_le h0
  obtain ⟨m, rfl⟩ := Int.eq_ofNat_of_zero_le hb0
  have e : (n : Int) * 2 ^ s = ((n * 2 ^ s : Nat) : Int) := by rw [Int.natCast_mul, Int.natCast_pow]; rfl
  have hm : m < 2 ^ s := by
    have : (m : Int) < ((2 ^ s : Nat) : Int) := by rw [Int.natCast_pow]; exact hb
    omega
  rw [e] at h ⊢
  rw [wrapN _ (by omega), bits_or_u64_nat _ _ (by omega) (by omega)]
  have := Nat.shiftLeft_add_eq_or_of_lt hm n
  rw [Nat.shiftLeft_eq] at this
  rw [← this]; omega
theorem wrap_id (a : Int) (h0 : 0 ≤ a) (h : a < 18446744073709551616) : IntKind.u64.wrap a = a := by rw [IntKind.wrap_u64]; omega
theorem wrap_rem (x c z R : Int) (hR0 : 0 ≤ R) (hR : R < 18446744073709551616) (e : x + c - z = R) : IntKind.u64.wrap (IntKind.u64.wrap (IntKind.u64.wrap x + c) - IntKind.u64.wrap z) = R := by
  rw [IntKind.wrap_u64, IntKind.wrap_u64, IntKind.wrap_u64, IntKind.wrap_u64]; omega
end Go.Proofs.YtaihcceobnfmhaaGreatDoor
