/-
  math/bits.Div64 of this program by its contract: Go's own text (the long division by two steps) is walked.
-/
import Derived.Test.YtaihcceobnfmhaaGreatDoorNumsX
import Derived.Deep.QuietTactic
import Derived.BigQuiet
namespace Go.Proofs.YtaihcceobnfmhaaGreatDoor
open Go.RowKit

/-- what one step of the long division leans on -/
def Kn (yn1 yn0 u un Q : Int) : Prop :=
  (∀ q r, u = q * yn1 + r → (4294967296 ≤ q ∨ 4294967296 * r + un < q * yn0) → Q ≤ q - 1 ∧ u = (q - 1) * yn1 + (r + yn1)) ∧
  (∀ q r, u = q * yn1 + r → Q ≤ q → q * yn0 ≤ 4294967296 * r + un → q = Q) ∧
  (∀ q r, u = q * yn1 + r → Q ≤ q → 4294967296 ≤ r → q ≤ 4294967296 → q = Q)
theorem wrap_mul (q b : Int) (h0 : 0 ≤ q) (h1 : q < 4294967296) (h2 : 0 ≤ b) (h3 : b ≤ 4294967295) : IntKind.u64.wrap (q * b) = q * b := by
  have a := Int.mul_nonneg h0 h2
  have c : q * b ≤ 4294967295 * b := Int.mul_le_mul_of_nonneg_right (by omega) h2
  rw [IntKind.wrap_u64]
  omega
theorem pos_of_mul (q b : Int) (h : 0 < q * b) (h0 : 0 ≤ q) (_h1 : 0 ≤ b) : 1 ≤ q := by
  rcases Int.lt_or_le 0 q with h2 | h2
  · omega
  · have e : q = 0 := by omega
    rw [e, Int.zero_mul] at h
    omega
theorem lz (x : Int) (s : Nat) (hs : s ≤ 64) (h : Lib.bitLen x.toNat = 64 - s) (w : World) (h0 : 0 ≤ x) (h1 : x ≤ 18446744073709551615) :
    Calls Tryz.prog 198 #[.int .u64 x] w fun e w' => e = .returned (.int .i64 s) ∧ w' = w := by
  refine (leadingZeros64 x w h0 h1).mono fun e w' ⟨a, b⟩ => ⟨?_, b⟩
  rw [a, h]; congr 2; omega
set_option maxRecDepth 100000 in
set_option maxHeartbeats 2000000 in
theorem div64_core (s : Nat) (hi lo y Y yn1 yn0 u L u1 u0 Q R Q0 R0 qi ri q0i r0i a1 a2 a3 b1 b2 b3 : Int) (hs : s ≤ 63) (hb : Lib.bitLen y.toNat = 64 - s) (hy : 0 < y) (hyM : y ≤ 18446744073709551615) (hhi : hi < y) (hh0 : 0 < hi) (_hlo0 : 0 ≤ lo) (_hlo : lo ≤ 18446744073709551615)
    (eY : IntKind.u64.wrap (y * 2 ^ s) = Y) (e1 : Y / 4294967296 = yn1) (e0 : bits .and .u64 Y 4294967295 = yn0)
    (eu : bits .or .u64 (IntKind.u64.wrap (hi * 2 ^ s)) (lo / 2 ^ (64 - s)) = u) (eL : IntKind.u64.wrap (lo * 2 ^ s) = L)
    (eu1 : L / 4294967296 = u1) (eu0 : bits .and .u64 L 4294967295 = u0)
    (hn1 : 2147483648 ≤ yn1) (hn1' : yn1 ≤ 4294967295) (hn00 : 0 ≤ yn0) (hn0 : yn0 ≤ 4294967295) (hu10 : 0 ≤ u1) (hu1 : u1 ≤ 4294967295) (hu00 : 0 ≤ u0) (hu0 : u0 ≤ 4294967295)
    (eq : IntKind.u64.wrap (u.tdiv yn1) = qi) (er : IntKind.u64.wrap (u - IntKind.u64.wrap (qi * yn1)) = ri)
    (H0 : Hid (u = qi * yn1 + ri ∧ Q ≤ qi)) (hqi : 0 ≤ qi ∧ qi ≤ 4294967297 ∧ 0 ≤ ri ∧ ri ≤ 4294967295) (K1 : Kn yn1 yn0 u u1 Q)
    (f1 : IntKind.u64.wrap (u * 4294967296) = a1) (f2 : IntKind.u64.wrap (a1 + u1) = a2) (f3 : IntKind.u64.wrap (Q * Y) = a3) (f4 : IntKind.u64.wrap (a2 - a3) = R)
    (f5 : IntKind.u64.wrap (R.tdiv yn1) = q0i) (f6 : IntKind.u64.wrap (R - IntKind.u64.wrap (q0i * yn1)) = r0i)
    (H1 : Hid (R = q0i * yn1 + r0i ∧ Q0 ≤ q0i)) (hq0i : 0 ≤ q0i ∧ q0i ≤ 4294967297 ∧ 0 ≤ r0i ∧ r0i ≤ 4294967295) (K2 : Kn yn1 yn0 R u0 Q0)
    (g1 : IntKind.u64.wrap (R * 4294967296) = b1) (g2 : IntKind.u64.wrap (b1 + u0) = b2) (g3 : IntKind.u64.wrap (Q0 * Y) = b3) (g4 : IntKind.u64.wrap (b2 - b3) = R0)
    (hQb : 0 ≤ Q ∧ Q ≤ 4294967295) (hQ0b : 0 ≤ Q0 ∧ Q0 ≤ 4294967295)
    (w : World) :
    Calls Tryz.prog 168 #[.int .u64 hi, .int .u64 lo, .int .u64 y] w fun e w' => e = .returned (.tuple #[.int .u64 (Q * 4294967296 + Q0), .int .u64 (R0 / 2 ^ s)]) ∧ w' = w := by
  have hn : ¬ yn1 = 0 := by omega
  have t1 : (y == 0) = false := by simp; omega
  have t2 : (hi == 0) = false := by simp; omega
  obtain ⟨hQ1, hQ2⟩ := hQb
  obtain ⟨hQ3, hQ4⟩ := hQ0b
  go_enter Tryz.func168, Tryz.ntmps168
  go_wp2_with (go_at_call 198; refine (lz y s (by omega) hb _ (by omega) (by omega)).mono ?_; rintro e w' ⟨rfl, rfl⟩)
  clear eY e1 e0 eu eL eu1 eu0 eq er
  go_loop [15, 16] (fun a b => ∃ q r : Int, a = .int .u64 q ∧ b = .int .u64 r ∧ Hid (u = q * yn1 + r ∧ Q ≤ q) ∧ 0 ≤ q ∧ q ≤ 4294967297 ∧ 0 ≤ r ∧ r ≤ 4294967295) (fun a _ => (intOf a).toNat)
  case atStart => exact ⟨qi, ri, rfl, rfl, H0, by omega, by omega, by omega, by omega⟩
  case round =>
    obtain ⟨q, r, rfl, rfl, Hq, hq0, hq, hr0, hr⟩ := hrel
    clear H0
    by_cases c1 : 4294967296 ≤ q
    · have hd := K1.1 q r Hq.out.1 (Or.inl c1)
      by_cases c2 : 4294967296 ≤ r + yn1
      · have hQ := K1.2.2 (q - 1) (r + yn1) hd.2 hd.1 c2 (by omega)
        clear hd Hq
        go_wp2
        go_loop [18, 16] (fun a b => ∃ q r : Int, a = .int .u64 q ∧ b = .int .u64 r ∧ Hid (R = q * yn1 + r ∧ Q0 ≤ q) ∧ 0 ≤ q ∧ q ≤ 4294967297 ∧ 0 ≤ r ∧ r ≤ 4294967295) (fun a _ => (intOf a).toNat)
        case atStart => exact ⟨q0i, r0i, rfl, rfl, H1, by omega, by omega, by omega, by omega⟩
        case round =>
          obtain ⟨q, r, rfl, rfl, Hq, hq0, hq, hr0, hr⟩ := hrel
          clear H1
          by_cases c1 : 4294967296 ≤ q
          · have hd := K2.1 q r Hq.out.1 (Or.inl c1)
            by_cases c2 : 4294967296 ≤ r + yn1
            · have hQ := K2.2.2 (q - 1) (r + yn1) hd.2 hd.1 c2 (by omega)
              clear hd Hq
              go_wp2
              go_ret2
              exact ⟨rfl, rfl⟩
            · have Hd : Hid (_ ∧ _) := hd
              clear hd Hq
              go_wp2
              go_round
              case rel => exact ⟨q - 1, r + yn1, rfl, rfl, ⟨Hd.out.2, Hd.out.1⟩, by omega, by omega, by omega, by omega⟩
              case measure => simp [intOf]; omega
          · have hw : IntKind.u64.wrap (q * yn0) = q * yn0 := wrap_mul q yn0 hq0 (by omega) hn00 hn0
            by_cases c3 : 4294967296 * r + u0 < q * yn0
            · have hd := K2.1 q r Hq.out.1 (Or.inr c3)
              have hp : 1 ≤ q := pos_of_mul q yn0 (by omega) hq0 hn00
              by_cases c2 : 4294967296 ≤ r + yn1
              · have hQ := K2.2.2 (q - 1) (r + yn1) hd.2 hd.1 c2 (by omega)
                clear hd Hq
                go_wp2
                go_ret2
                exact ⟨rfl, rfl⟩
              · have Hd : Hid (_ ∧ _) := hd
                clear hd Hq
                go_wp2
                go_round
                case rel => exact ⟨q - 1, r + yn1, rfl, rfl, ⟨Hd.out.2, Hd.out.1⟩, by omega, by omega, by omega, by omega⟩
                case measure => simp [intOf]; omega
            · have hQ := K2.2.1 q r Hq.out.1 Hq.out.2 (by omega)
              clear Hq
              subst hQ
              go_wp2
              go_ret2
              exact ⟨rfl, rfl⟩
      · have Hd : Hid (_ ∧ _) := hd
        clear hd Hq
        go_wp2
        go_round
        case rel => exact ⟨q - 1, r + yn1, rfl, rfl, ⟨Hd.out.2, Hd.out.1⟩, by omega, by omega, by omega, by omega⟩
        case measure => simp [intOf]; omega
    · have hw : IntKind.u64.wrap (q * yn0) = q * yn0 := wrap_mul q yn0 hq0 (by omega) hn00 hn0
      by_cases c3 : 4294967296 * r + u1 < q * yn0
      · have hd := K1.1 q r Hq.out.1 (Or.inr c3)
        have hp : 1 ≤ q := pos_of_mul q yn0 (by omega) hq0 hn00
        by_cases c2 : 4294967296 ≤ r + yn1
        · have hQ := K1.2.2 (q - 1) (r + yn1) hd.2 hd.1 c2 (by omega)
          clear hd Hq
          go_wp2
          go_loop [18, 16] (fun a b => ∃ q r : Int, a = .int .u64 q ∧ b = .int .u64 r ∧ Hid (R = q * yn1 + r ∧ Q0 ≤ q) ∧ 0 ≤ q ∧ q ≤ 4294967297 ∧ 0 ≤ r ∧ r ≤ 4294967295) (fun a _ => (intOf a).toNat)
          case atStart => exact ⟨q0i, r0i, rfl, rfl, H1, by omega, by omega, by omega, by omega⟩
          case round =>
            obtain ⟨q, r, rfl, rfl, Hq, hq0, hq, hr0, hr⟩ := hrel
            clear H1
            by_cases c1 : 4294967296 ≤ q
            · have hd := K2.1 q r Hq.out.1 (Or.inl c1)
              by_cases c2 : 4294967296 ≤ r + yn1
              · have hQ := K2.2.2 (q - 1) (r + yn1) hd.2 hd.1 c2 (by omega)
                clear hd Hq
                go_wp2
                go_ret2
                exact ⟨rfl, rfl⟩
              · have Hd : Hid (_ ∧ _) := hd
                clear hd Hq
                go_wp2
                go_round
                case rel => exact ⟨q - 1, r + yn1, rfl, rfl, ⟨Hd.out.2, Hd.out.1⟩, by omega, by omega, by omega, by omega⟩
                case measure => simp [intOf]; omega
            · have hw : IntKind.u64.wrap (q * yn0) = q * yn0 := wrap_mul q yn0 hq0 (by omega) hn00 hn0
              by_cases c3 : 4294967296 * r + u0 < q * yn0
              · have hd := K2.1 q r Hq.out.1 (Or.inr c3)
                have hp : 1 ≤ q := pos_of_mul q yn0 (by omega) hq0 hn00
                by_cases c2 : 4294967296 ≤ r + yn1
                · have hQ := K2.2.2 (q - 1) (r + yn1) hd.2 hd.1 c2 (by omega)
                  clear hd Hq
                  go_wp2
                  go_ret2
                  exact ⟨rfl, rfl⟩
                · have Hd : Hid (_ ∧ _) := hd
                  clear hd Hq
                  go_wp2
                  go_round
                  case rel => exact ⟨q - 1, r + yn1, rfl, rfl, ⟨Hd.out.2, Hd.out.1⟩, by omega, by omega, by omega, by omega⟩
                  case measure => simp [intOf]; omega
              · have hQ := K2.2.1 q r Hq.out.1 Hq.out.2 (by omega)
                clear Hq
                subst hQ
                go_wp2
                go_ret2
                exact ⟨rfl, rfl⟩
        · have Hd : Hid (_ ∧ _) := hd
          clear hd Hq
          go_wp2
          go_round
          case rel => exact ⟨q - 1, r + yn1, rfl, rfl, ⟨Hd.out.2, Hd.out.1⟩, by omega, by omega, by omega, by omega⟩
          case measure => simp [intOf]; omega
      · have hQ := K1.2.1 q r Hq.out.1 Hq.out.2 (by omega)
        clear Hq
        subst hQ
        go_wp2
        go_loop [18, 16] (fun a b => ∃ q r : Int, a = .int .u64 q ∧ b = .int .u64 r ∧ Hid (R = q * yn1 + r ∧ Q0 ≤ q) ∧ 0 ≤ q ∧ q ≤ 4294967297 ∧ 0 ≤ r ∧ r ≤ 4294967295) (fun a _ => (intOf a).toNat)
        case atStart => exact ⟨q0i, r0i, rfl, rfl, H1, by omega, by omega, by omega, by omega⟩
        case round =>
          obtain ⟨q, r, rfl, rfl, Hq, hq0, hq, hr0, hr⟩ := hrel
          clear H1
          by_cases c1 : 4294967296 ≤ q
          · have hd := K2.1 q r Hq.out.1 (Or.inl c1)
            by_cases c2 : 4294967296 ≤ r + yn1
            · have hQ := K2.2.2 (q - 1) (r + yn1) hd.2 hd.1 c2 (by omega)
              clear hd Hq
              go_wp2
              go_ret2
              exact ⟨rfl, rfl⟩
            · have Hd : Hid (_ ∧ _) := hd
              clear hd Hq
              go_wp2
              go_round
              case rel => exact ⟨q - 1, r + yn1, rfl, rfl, ⟨Hd.out.2, Hd.out.1⟩, by omega, by omega, by omega, by omega⟩
              case measure => simp [intOf]; omega
          · have hw : IntKind.u64.wrap (q * yn0) = q * yn0 := wrap_mul q yn0 hq0 (by omega) hn00 hn0
            by_cases c3 : 4294967296 * r + u0 < q * yn0
            · have hd := K2.1 q r Hq.out.1 (Or.inr c3)
              have hp : 1 ≤ q := pos_of_mul q yn0 (by omega) hq0 hn00
              by_cases c2 : 4294967296 ≤ r + yn1
              · have hQ := K2.2.2 (q - 1) (r + yn1) hd.2 hd.1 c2 (by omega)
                clear hd Hq
                go_wp2
                go_ret2
                exact ⟨rfl, rfl⟩
              · have Hd : Hid (_ ∧ _) := hd
                clear hd Hq
                go_wp2
                go_round
                case rel => exact ⟨q - 1, r + yn1, rfl, rfl, ⟨Hd.out.2, Hd.out.1⟩, by omega, by omega, by omega, by omega⟩
                case measure => simp [intOf]; omega
            · have hQ := K2.2.1 q r Hq.out.1 Hq.out.2 (by omega)
              clear Hq
              subst hQ
              go_wp2
              go_ret2
              exact ⟨rfl, rfl⟩

/-- the quotient and the rest of two words by one -/
def quoW (hi lo y : Int) : Int := (hi * 18446744073709551616 + lo) / y
def remW (hi lo y : Int) : Int := (hi * 18446744073709551616 + lo) % y

theorem kn_of (yn1 yn0 u un : Int) (h1 : 2147483648 ≤ yn1) (hn0 : 0 ≤ yn0) (hn : yn0 ≤ 4294967295) (hu : u < yn1 * 4294967296 + yn0) (hun0 : 0 ≤ un) (hun : un ≤ 4294967295) :
    Kn yn1 yn0 u un ((u * 4294967296 + un) / (yn1 * 4294967296 + yn0)) :=
  ⟨fun q r he ht => kn_dec 4294967296 yn1 yn0 u un q r (by omega) (by omega) hu (by omega) he ht,
   fun q r he hQ ht => kn_stop 4294967296 yn1 yn0 u un q r (by omega) he hQ ht,
   fun q r he hQ hr hq => kn_break 4294967296 yn1 yn0 u un q r (by omega) hun0 (by omega) hn0 (by omega) he hQ hr hq⟩
/-- what a step's guess is in words of the machine -/
theorem guess (yn1 yn0 u un Y : Int) (hY : Y = yn1 * 4294967296 + yn0) (h1 : 2147483648 ≤ yn1) (h1' : yn1 ≤ 4294967295) (hn0 : 0 ≤ yn0) (hn : yn0 ≤ 4294967295) (hu0 : 0 ≤ u) (hu : u < Y) (hun0 : 0 ≤ un) (hun : un ≤ 4294967295) :
    IntKind.u64.wrap (u.tdiv yn1) = u / yn1 ∧ IntKind.u64.wrap (u - IntKind.u64.wrap (u / yn1 * yn1)) = u - u / yn1 * yn1 ∧
    (u = u / yn1 * yn1 + (u - u / yn1 * yn1) ∧ (u * 4294967296 + un) / Y ≤ u / yn1) ∧ (0 ≤ u / yn1 ∧ u / yn1 ≤ 4294967297 ∧ 0 ≤ u - u / yn1 * yn1 ∧ u - u / yn1 * yn1 ≤ 4294967295) ∧
    (0 ≤ (u * 4294967296 + un) / Y ∧ (u * 4294967296 + un) / Y ≤ 4294967295) ∧ 0 ≤ (u * 4294967296 + un) % Y ∧ (u * 4294967296 + un) % Y < Y ∧
    (u * 4294967296) + un - (u * 4294967296 + un) / Y * Y = (u * 4294967296 + un) % Y := by
  subst hY
  have k := kn_init 4294967296 yn1 yn0 u un (by omega) (by omega) hn0 (by omega) (by omega) hu0 hu (by omega)
  have m0 : 0 ≤ u / yn1 * yn1 := Int.mul_nonneg k.2.2.2.2.2 (by omega)
  have t : u.tdiv yn1 = u / yn1 := Int.tdiv_eq_ediv_of_nonneg hu0
  have hy : 0 < yn1 * 4294967296 + yn0 := by omega
  have q0 := Int.ediv_nonneg (a := u * 4294967296 + un) (b := yn1 * 4294967296 + yn0) (by omega) (by omega)
  have q1 : (u * 4294967296 + un) / (yn1 * 4294967296 + yn0) < 4294967296 := by
    rw [Int.ediv_lt_iff_lt_mul hy]; omega
  have r0 := Int.emod_nonneg (u * 4294967296 + un) (Int.ne_of_gt hy)
  have r1 := Int.emod_lt_of_pos (u * 4294967296 + un) hy
  have d := Int.mul_ediv_add_emod (u * 4294967296 + un) (yn1 * 4294967296 + yn0)
  rw [Int.mul_comm] at d
  obtain ⟨k1, k2, k3, k4, k5, k6⟩ := k
  generalize u / yn1 * yn1 = m at *
  generalize (u * 4294967296 + un) / (yn1 * 4294967296 + yn0) * (yn1 * 4294967296 + yn0) = qy at *
  generalize (u * 4294967296 + un) / (yn1 * 4294967296 + yn0) = Q at *
  generalize (u * 4294967296 + un) % (yn1 * 4294967296 + yn0) = R at *
  rw [t]
  refine ⟨wrap_id _ k6 (by omega), ?_, ⟨k1, k4⟩, ⟨k6, by omega, k2, by omega⟩, ⟨q0, by omega⟩, r0, r1, by omega⟩
  rw [wrap_id m m0 (by omega)]
  exact wrap_id _ k2 (by omega)

set_option maxRecDepth 100000 in
/-- Div64 where the upper word is not 0. -/
theorem div64_pos (hi lo y : Int) (h0 : 0 < hi) (h1 : hi < y) (l0 : 0 ≤ lo) (l1 : lo ≤ 18446744073709551615) (hyM : y ≤ 18446744073709551615) (w : World) :
    Calls Tryz.prog 168 #[.int .u64 hi, .int .u64 lo, .int .u64 y] w fun e w' => e = .returned (.tuple #[.int .u64 (quoW hi lo y), .int .u64 (remW hi lo y)]) ∧ w' = w := by
  obtain ⟨s, hs, hb, y0', y1'⟩ := bl_bounds y.toNat (by omega) (by omega)
  have ep : ((y.toNat * 2 ^ s : Nat) : Int) = y * 2 ^ s := by rw [Int.natCast_mul, Int.natCast_pow, Int.toNat_of_nonneg (by omega)]; rfl
  have y0 : 9223372036854775808 ≤ y * 2 ^ s := by rw [← ep]; omega
  have y1 : y * 2 ^ s < 18446744073709551616 := by rw [← ep]; omega
  have hp : (0 : Int) < 2 ^ s := Int.pow_pos (by omega)
  have hc : (0 : Int) < 2 ^ (64 - s) := Int.pow_pos (by omega)
  have hcp : (2 : Int) ^ (64 - s) * 2 ^ s = 18446744073709551616 := by rw [← Int.pow_add]; rw [show 64 - s + s = 64 by omega]; rfl
  obtain ⟨a0, a1, a2, a3, a4⟩ := dv_facts hi lo y (2 ^ s) (2 ^ (64 - s)) hp hc hcp (by omega) h1 l0 (by omega)
  have dend := dv_end (hi * 18446744073709551616 + lo) y (2 ^ s) hp
  have eor := or_int hi (lo / 2 ^ (64 - s)) s (by omega) a0 a1 (by omega)
  have eL : IntKind.u64.wrap (lo * 2 ^ s) = (lo * 2 ^ s) % 18446744073709551616 := by rw [IntKind.wrap_u64]
  have eY := wrap_id (y * 2 ^ s) (by omega) y1
  rw [← a2] at dend
  have core := div64_core s hi lo y
  generalize hY : y * 2 ^ s = Y at *
  generalize hu : hi * 2 ^ s + lo / 2 ^ (64 - s) = u at *
  generalize hL : (lo * 2 ^ s) % 18446744073709551616 = L at *
  have L0 : 0 ≤ L ∧ L < 18446744073709551616 := by rw [← hL]; exact ⟨Int.emod_nonneg _ (by omega), Int.emod_lt_of_pos _ (by omega)⟩
  have eYs : Y = Y / 4294967296 * 4294967296 + Y % 4294967296 := by omega
  have g1 := guess (Y / 4294967296) (Y % 4294967296) u (L / 4294967296) Y eYs (by omega) (by omega) (by omega) (by omega) (by omega) (by omega) (by omega) (by omega)
  have K1 := kn_of (Y / 4294967296) (Y % 4294967296) u (L / 4294967296) (by omega) (by omega) (by omega) (by omega) (by omega) (by omega)
  rw [← eYs] at K1
  have two := kn_two 4294967296 Y u (L / 4294967296) (L % 4294967296) (by omega)
  have eN : (u * 4294967296 + L / 4294967296) * 4294967296 + L % 4294967296 = u * 18446744073709551616 + L := by omega
  rw [eN] at two
  obtain ⟨p1, p2, p3, p4, p5, p6, p7, p8⟩ := g1
  have w1 := wrap_rem (u * 4294967296) (L / 4294967296) ((u * 4294967296 + L / 4294967296) / Y * Y) _ p6 (by omega) p8
  generalize (u * 4294967296 + L / 4294967296) / Y = Q at *
  generalize (u * 4294967296 + L / 4294967296) % Y = R at *
  have g2 := guess (Y / 4294967296) (Y % 4294967296) R (L % 4294967296) Y eYs (by omega) (by omega) (by omega) (by omega) (by omega) (by omega) (by omega) (by omega)
  have K2 := kn_of (Y / 4294967296) (Y % 4294967296) R (L % 4294967296) (by omega) (by omega) (by omega) (by omega) (by omega) (by omega)
  rw [← eYs] at K2
  obtain ⟨r1, r2, r3, r4, r5, r6, r7, r8⟩ := g2
  have w2 := wrap_rem (R * 4294967296) (L % 4294967296) ((R * 4294967296 + L % 4294967296) / Y * Y) _ r6 (by omega) r8
  generalize (R * 4294967296 + L % 4294967296) / Y = Q0 at *
  generalize (R * 4294967296 + L % 4294967296) % Y = R0 at *
  have fin := core Y (Y / 4294967296) (Y % 4294967296) u L (L / 4294967296) (L % 4294967296) Q R Q0 R0 _ _ _ _ _ _ _ _ _ _ hs hb (by omega) hyM h1 h0 l0 l1 eY rfl (mask_int Y (by omega) y1) eor eL rfl (mask_int L L0.1 L0.2)
    (by omega) (by omega) (by omega) (by omega) (by omega) (by omega) (by omega) (by omega) p1 p2 p3 p4 K1 rfl rfl rfl w1 r1 r2 r3 r4 K2 rfl rfl rfl w2 p5 r5 w
  rw [two.1, two.2, dend.1, dend.2] at fin
  exact fin

set_option maxHeartbeats 400000 in
/-- Div64 where the upper word is 0: the machine's own division. -/
theorem div64_zero (lo y : Int) (h1 : 0 < y) (l0 : 0 ≤ lo) (l1 : lo ≤ 18446744073709551615) (hyM : y ≤ 18446744073709551615) (w : World) :
    Calls Tryz.prog 168 #[.int .u64 0, .int .u64 lo, .int .u64 y] w fun e w' => e = .returned (.tuple #[.int .u64 (lo / y), .int .u64 (lo % y)]) ∧ ∃ n, w' = w.drewN n := by
  have t1 : (y == 0) = false := by simp; omega
  have t2 : ¬ y = 0 := by omega
  go_enter Tryz.func168, Tryz.ntmps168
  go_wp2
  go_quiet (fail)
  go_wp2
  go_ret2
  exact ⟨rfl, _, rfl⟩

/-- Div64: the quotient and the rest. -/
theorem div64 (hi lo y : Int) (h0 : 0 ≤ hi) (h1 : hi < y) (l0 : 0 ≤ lo) (l1 : lo ≤ 18446744073709551615) (hyM : y ≤ 18446744073709551615) (w : World) :
    Calls Tryz.prog 168 #[.int .u64 hi, .int .u64 lo, .int .u64 y] w fun e w' => e = .returned (.tuple #[.int .u64 (quoW hi lo y), .int .u64 (remW hi lo y)]) ∧ ∃ n, w' = w.drewN n := by
  rcases Int.lt_or_le 0 hi with h | h
  · exact (div64_pos hi lo y h h1 l0 l1 hyM w).mono fun e w' ⟨a, b⟩ => ⟨a, 0, b⟩
  · obtain rfl : hi = 0 := by omega
    have e1 : quoW 0 lo y = lo / y := by unfold quoW; rw [Int.zero_mul, Int.zero_add]
    have e2 : remW 0 lo y = lo % y := by unfold remW; rw [Int.zero_mul, Int.zero_add]
    rw [e1, e2]
    exact div64_zero lo y (by omega) l0 l1 hyM w
theorem split_words (p : Int) : hiW p * 18446744073709551616 + loW p = p := by unfold hiW loW; omega
theorem quoW_of (p y : Int) : quoW (hiW p) (loW p) y = p / y := by unfold quoW; rw [split_words]
theorem remW_of (p y : Int) : remW (hiW p) (loW p) y = p % y := by unfold remW; rw [split_words]
/-- Div64 of a product's two words. -/
theorem div64_of (p y : Int) (h0 : 0 ≤ p) (h1 : hiW p < y) (hyM : y ≤ 18446744073709551615) (w : World) :
    Calls Tryz.prog 168 #[.int .u64 (hiW p), .int .u64 (loW p), .int .u64 y] w fun e w' => e = .returned (.tuple #[.int .u64 (p / y), .int .u64 (p % y)]) ∧ ∃ n, w' = w.drewN n := by
  have k := div64 (hiW p) (loW p) y (by unfold hiW; omega) h1 (by unfold loW; omega) (by unfold loW; omega) hyM w
  rw [quoW_of, remW_of] at k
  exact k
theorem loW_bd (p : Int) : 0 ≤ loW p ∧ loW p ≤ 18446744073709551615 := by unfold loW; omega
end Go.Proofs.YtaihcceobnfmhaaGreatDoor
