/-
  bakehouseref1.Product by its contract: a product over a third number, bit by bit.
  The document's pool (bakehouseref1.Pool) by its contracts: what it tells.
  The document's pool (bakehouseref1.Pool) by its contracts: what is done to it.
  The document's pool (bakehouseref1.Pool) by its contracts: a new one.
-/
import Derived.Test.YtaihcceobnfmhaaGreatDoorPtrMapX
import Derived.Test.YtaihcceobnfmhaaGreatDoorProgPurseX
import Derived.Test.YtaihcceobnfmhaaGreatDoorRefPurseActsX
import Derived.Test.YtaihcceobnfmhaaGreatDoorAidX
import Derived.Deep.QuietTactic
import Derived.BigQuiet
import Derived.BigRegion
import Derived.Deep.OwnRows
namespace Go.Proofs.YtaihcceobnfmhaaGreatDoor
open Go.RowKit

/-- the product of a's upper bits -/
def pd (a b : Int) (m : Nat) : Int := a / 2 ^ m * b
theorem pd_zero (a b : Int) : pd a b 0 = a * b := by unfold pd; simp
theorem half (a : Int) (m : Nat) : a / 2 ^ m = 2 * (a / 2 ^ (m + 1)) + a / 2 ^ m % 2 := by
  have e : a / 2 ^ (m + 1) = a / 2 ^ m / 2 := by rw [Int.pow_succ, Int.ediv_ediv_of_nonneg (Int.pow_nonneg (by omega))]
  rw [e]; omega
theorem step_div (N L x c : Int) (hc : 0 < c) : (2 * (N * c + L) + x) / c = 2 * N + (2 * L + x) / c ∧ (2 * (N * c + L) + x) % c = (2 * L + x) % c := by
  have e : 2 * (N * c + L) + x = (2 * L + x) + c * (2 * N) := by
    rw [Int.mul_add, Int.mul_comm c, ← Int.mul_assoc]; omega
  rw [e]
  refine ⟨?_, ?_⟩
  · rw [Int.add_mul_ediv_left _ _ (Int.ne_of_gt hc)]; omega
  · rw [Int.add_mul_emod_self_left]
theorem pd_step (a b c : Int) (m : Nat) (hc : 0 < c) :
    pd a b m / c = 2 * (pd a b (m + 1) / c) + (2 * (pd a b (m + 1) % c) + a / 2 ^ m % 2 * b) / c ∧ pd a b m % c = (2 * (pd a b (m + 1) % c) + a / 2 ^ m % 2 * b) % c := by
  have d := Int.mul_ediv_add_emod (pd a b (m + 1)) c
  rw [Int.mul_comm] at d
  have e : pd a b m = 2 * (pd a b (m + 1) / c * c + pd a b (m + 1) % c) + a / 2 ^ m % 2 * b := by
    rw [d]
    unfold pd
    rw [show a / 2 ^ m * b = (2 * (a / 2 ^ (m + 1)) + a / 2 ^ m % 2) * b from by rw [← half], Int.add_mul, Int.mul_assoc]
  have s := step_div (pd a b (m + 1) / c) (pd a b (m + 1) % c) (a / 2 ^ m % 2 * b) c hc
  rw [← e] at s
  exact s
theorem pd_mono (a b c : Int) (m : Nat) (ha : 0 ≤ a) (hb : 0 ≤ b) (hc : 0 < c) : pd a b m / c ≤ a * b / c := by
  refine Int.ediv_le_ediv hc (Int.mul_le_mul_of_nonneg_right ?_ hb)
  exact Int.ediv_le_self _ ha

set_option maxRecDepth 100000 in
set_option maxHeartbeats 4000000 in
theorem product_any (a b c : Int) (h : Amounts a b c) (w : World) :
    Calls Tryz.prog 172 #[.int .i64 a, .int .i64 b, .int .i64 c] w fun e w' => ((a * b / c ≤ 1125899906842624 ∧ e = .returned (.tuple #[.int .i64 (a * b / c), .int .i64 (a * b % c), .bool true])) ∨ (1125899906842624 < a * b / c ∧ e = .returned (.tuple #[.int .i64 0, .int .i64 0, .bool false]))) ∧ w' = w := by
  obtain ⟨a0, a1, b0, b1, c0, c1⟩ := h
  have hz : ¬ c = 0 := by omega
  go_enter Tryz.func172, Tryz.ntmps172
  go_wp2
  go_loop [9, 10, 11] (fun n l i => ∃ k : Nat, k ≤ 51 ∧ ∃ j : Int, Hid (j = k - 1) ∧ i = .int .i64 j ∧ n = .int .i64 (pd a b k / c) ∧ l = .int .i64 (pd a b k % c) ∧ pd a b k / c ≤ 1125899906842624) (fun _ _ i => (intOf i + 1).toNat)
  case atStart =>
    have e : a / 2 ^ 51 = 0 := Int.ediv_eq_zero_of_lt a0 (by omega)
    have e2 : pd a b 51 = 0 := by unfold pd; rw [e, Int.zero_mul]
    exact ⟨51, by omega, 50, by show (50 : Int) = ((51 : Nat) : Int) - 1; omega, rfl, by rw [e2, Int.zero_ediv], by rw [e2, Int.zero_emod], by rw [e2, Int.zero_ediv]; omega⟩
  case round =>
    obtain ⟨k, hk, j, Hj, rfl, rfl, rfl, hn⟩ := hrel
    rcases Nat.eq_zero_or_pos k with h0 | h0
    · subst h0
      have e : j = -1 := by have := Hj.out; omega
      subst e
      have e0 := pd_zero a b
      rw [e0] at hn
      clear Hj
      go_wp2
      go_ret3
      exact ⟨Or.inl rfl, rfl⟩
    · obtain ⟨m, rfl⟩ : ∃ m, k = m + 1 := ⟨k - 1, by omega⟩
      have e : j = (m : Int) := by have := Hj.out; omega
      subst e
      clear Hj
      have hA : 0 ≤ a / 2 ^ m := Int.ediv_nonneg a0 (Int.pow_nonneg (by omega))
      have hA1 : a / 2 ^ m ≤ a := Int.ediv_le_self _ a0
      have hN : 0 ≤ pd a b (m + 1) / c := Int.ediv_nonneg (Int.mul_nonneg (Int.ediv_nonneg a0 (Int.pow_nonneg (by omega))) b0) (by omega)
      have hL : 0 ≤ pd a b (m + 1) % c := Int.emod_nonneg _ hz
      have hL1 : pd a b (m + 1) % c < c := Int.emod_lt_of_pos _ (by omega)
      have st := pd_step a b c m (by omega)
      generalize pd a b (m + 1) / c = N at *
      generalize pd a b (m + 1) % c = L at *
      by_cases hbit : a / 2 ^ m % 2 = 1
      · rw [hbit, Int.one_mul] at st
        have tb : (a / 2 ^ m % 2 == 1) = true := by simp [hbit]
        have q0 : 0 ≤ (2 * L + b) / c := Int.ediv_nonneg (by omega) (by omega)
        have q1 : (2 * L + b) / c ≤ 2 * L + b := Int.ediv_le_self _ (by omega)
        obtain ⟨st1, st2⟩ := st
        have S1 : Hid (pd a b m / c = 2 * N + (2 * L + b) / c) := st1
        have S2 : Hid (pd a b m % c = (2 * L + b) % c) := st2
        by_cases hgt : 1125899906842624 < 2 * N + (2 * L + b) / c
        · have big := pd_mono a b c m a0 b0 (by omega)
          clear st1 st2 hbit
          have BG : Hid (1125899906842624 < a * b / c) := (by have := S1.out; omega : 1125899906842624 < a * b / c)
          clear big
          go_wp2
          go_ret3
          exact ⟨Or.inr ⟨BG.out, rfl⟩, rfl⟩
        · clear st1 st2 hbit
          go_wp2
          go_round
          case rel => exact ⟨m, by omega, _, rfl, rfl, by rw [S1.out], by rw [S2.out], by rw [S1.out]; omega⟩
          case measure => simp [intOf]
      · have hbit0 : a / 2 ^ m % 2 = 0 := by omega
        rw [hbit0, Int.zero_mul, Int.add_zero] at st
        have tb : (a / 2 ^ m % 2 == 1) = false := by simp [hbit0]
        have q0 : 0 ≤ 2 * L / c := Int.ediv_nonneg (by omega) (by omega)
        have q1 : 2 * L / c ≤ 2 * L := Int.ediv_le_self _ (by omega)
        obtain ⟨st1, st2⟩ := st
        have S1 : Hid (pd a b m / c = 2 * N + 2 * L / c) := st1
        have S2 : Hid (pd a b m % c = 2 * L % c) := st2
        by_cases hgt : 1125899906842624 < 2 * N + 2 * L / c
        · have big := pd_mono a b c m a0 b0 (by omega)
          clear st1 st2 hbit hbit0
          have BG : Hid (1125899906842624 < a * b / c) := (by have := S1.out; omega : 1125899906842624 < a * b / c)
          clear big
          go_wp2
          go_ret3
          exact ⟨Or.inr ⟨BG.out, rfl⟩, rfl⟩
        · clear st1 st2 hbit hbit0
          go_wp2
          go_round
          case rel => exact ⟨m, by omega, _, rfl, rfl, by rw [S1.out], by rw [S2.out], by rw [S1.out]; omega⟩
          case measure => simp [intOf]

theorem product_yes (a b c : Int) (h : Amounts a b c) (hq : a * b / c ≤ 1125899906842624) (w : World) :
    Calls Tryz.prog 172 #[.int .i64 a, .int .i64 b, .int .i64 c] w fun e w' => e = .returned (.tuple #[.int .i64 (a * b / c), .int .i64 (a * b % c), .bool true]) ∧ w' = w :=
  (product_any a b c h w).mono fun e w' ⟨hr, hw⟩ => ⟨by
    rcases hr with ⟨_, he⟩ | ⟨hl, _⟩
    · exact he
    · omega, hw⟩
theorem product_no (a b c : Int) (h : Amounts a b c) (hq : 1125899906842624 < a * b / c) (w : World) :
    Calls Tryz.prog 172 #[.int .i64 a, .int .i64 b, .int .i64 c] w fun e w' => e = .returned (.tuple #[.int .i64 0, .int .i64 0, .bool false]) ∧ w' = w :=
  (product_any a b c h w).mono fun e w' ⟨hr, hw⟩ => ⟨by
    rcases hr with ⟨hl, _⟩ | ⟨_, he⟩
    · omega
    · exact he, hw⟩

/-! DownOf, UpOf -/
end Go.Proofs.YtaihcceobnfmhaaGreatDoor

namespace Go.Proofs.YtaihcceobnfmhaaGreatDoor
open Go.RowKit

/-- the document's pool, as it lies in memory -/
structure RefAt (w : World) (b q : Nat) (x : St) : Prop where
  c0 : w.cell? ⟨b, 0, none⟩ = some (.int .i64 x.T)
  c1 : ∃ cap, w.cell? ⟨b, 1, none⟩ = some (.slice (some ⟨q, 0, none⟩) 6 cap)
  s : ∀ i : Nat, i < 6 → w.cell? ⟨q, i, none⟩ = some (.int .i64 (x.s i))
  f0 : w.frozen? ⟨b, 0, none⟩ = false
  fs : ∀ i : Nat, i < 6 → w.frozen? ⟨q, i, none⟩ = false
  ne : b ≠ q
theorem RefAt.drewN {w : World} {b q : Nat} {x : St} (h : RefAt w b q x) (n : Nat) : RefAt (w.drewN n) b q x := ⟨h.c0, h.c1, h.s, h.f0, h.fs, h.ne⟩

theorem RefAt.kept {w w' : World} {b q : Nat} {x : St} {X : List Nat} (h : RefAt w b q x) (hK : Kept X w w') (hb : b ∉ X) (hq : q ∉ X) : RefAt w' b q x where
  c0 := hK.old h.c0 hb
  c1 := h.c1.imp fun _ g => hK.old g hb
  s := fun i hi => hK.old (h.s i hi) hq
  f0 := by rw [hK.frozen (cell_lt h.c0) hb]; exact h.f0
  fs := fun i hi => by rw [hK.frozen (cell_lt (h.s i hi)) hq]; exact h.fs i hi
  ne := h.ne
theorem RefAt.lt {w : World} {b q : Nat} {x : St} (h : RefAt w b q x) : b < w.heap.size ∧ q < w.heap.size := ⟨cell_lt h.c0, cell_lt (h.s 0 (by omega))⟩

/-- the first so many owners' shares -/
def pre (x : St) : Nat → Int
  | 0 => 0
  | k + 1 => pre x k + x.s k
theorem pre_six (x : St) : pre x 6 = x.A := by simp [pre, St.A]
theorem pre_bd {x : St} (h : x.Ok) : ∀ k, k ≤ 6 → 0 ≤ pre x k ∧ pre x k ≤ x.A
  | 0, _ => ⟨Int.le_refl _, h.a0⟩
  | k + 1, hk => by
    have h0 := h.pos 0
    have h1 := h.pos 1
    have h2 := h.pos 2
    have h3 := h.pos 3
    have h4 := h.pos 4
    have h5 := h.pos 5
    have : k = 0 ∨ k = 1 ∨ k = 2 ∨ k = 3 ∨ k = 4 ∨ k = 5 := by omega
    rcases this with rfl | rfl | rfl | rfl | rfl | rfl <;> (simp [pre, St.A]; omega)

set_option maxRecDepth 100000 in
set_option maxHeartbeats 1000000 in
theorem ref_all (b q : Nat) (x : St) (hx : x.Ok) (w : World) (h : RefAt w b q x) :
    Calls Tryz.prog 171 #[.pointer (some ⟨b, 0, none⟩)] w fun e w' => e = .returned (.int .i64 x.A) ∧ w' = w := by
  obtain ⟨cap, c1⟩ := h.c1
  have a1 := hx.a1
  go_enter Tryz.func171, Tryz.ntmps171
  go_wp2
  go_loop [3, 4] (fun n i => ∃ k : Nat, k ≤ 6 ∧ i = .int .i64 k ∧ n = .int .i64 (pre x k)) (fun _ i => 6 - (intOf i).toNat)
  case atStart => exact ⟨0, by omega, rfl, rfl⟩
  case round =>
    obtain ⟨k, hk, rfl, rfl⟩ := hrel
    by_cases hlt : k < 6
    · have cs := h.s k hlt
      have hp := pre_bd hx k (by omega)
      have hq := pre_bd hx (k + 1) (by omega)
      have he : pre x (k + 1) = pre x k + x.s k := rfl
      rw [he] at hq
      clear he
      go_wp2
      go_round
      case rel => exact ⟨k + 1, by omega, by go_num, rfl⟩
      case measure => simp [intOf]; omega
    · obtain rfl : k = 6 := by omega
      have he := hide (pre_six x)
      go_wp2
      go_ret
      exact ⟨ret_int he.out, rfl⟩

theorem ref_shares (b q : Nat) (x : St) (hx : x.Ok) (o : Int) (w : World) (h : RefAt w b q x) :
    Calls Tryz.prog 187 #[.pointer (some ⟨b, 0, none⟩), .int .i64 o] w fun e w' => e = .returned (.int .i64 (x.s o)) ∧ w' = w := by
  obtain ⟨cap, c1⟩ := h.c1
  by_cases ho : 0 ≤ o ∧ o < 6
  · obtain ⟨k, rfl⟩ : ∃ k : Nat, o = k := ⟨o.toNat, by omega⟩
    have cs := h.s k (by omega)
    have is := isOwner_yes k ho.1 ho.2
    have hk : k < 6 := by omega
    clear ho
    go_enter Tryz.func187, Tryz.ntmps187
    go_wp2_with (go_at_call 130; refine (is _).mono ?_; rintro e w' ⟨rfl, rfl⟩)
    go_ret
    exact ⟨rfl, rfl⟩
  · have is := isOwner_no o ho
    have ho' := hide (hx.out o (by omega))
    clear ho
    go_enter Tryz.func187, Tryz.ntmps187
    go_wp2_with (go_at_call 130; refine (is _).mono ?_; rintro e w' ⟨rfl, rfl⟩)
    go_ret
    exact ⟨ret_int ho'.out.symm, rfl⟩

/-- what a value's product asks -/
theorem val_amounts {x : St} (hx : x.Ok) (hA : 0 < x.A) (o : Int) : Amounts (x.s o) x.T x.A ∧ x.s o * x.T / x.A ≤ 1125899906842624 := by
  have h1 := hx.le_all o
  have h2 := hx.a1
  refine ⟨⟨hx.pos o, by omega, hx.t0, hx.t1, by omega, h2⟩, ?_⟩
  have h3 := hx.val1 o
  rw [St.val_some o hA] at h3
  have := hx.t1
  omega

set_option maxRecDepth 100000 in
set_option maxHeartbeats 1000000 in
theorem ref_value (b q : Nat) (x : St) (hx : x.Ok) (o : Int) (w : World) (h : RefAt w b q x) :
    Calls Tryz.prog 139 #[.pointer (some ⟨b, 0, none⟩), .int .i64 o] w fun e w' => e = .returned (.int .i64 (x.val o)) ∧ ∃ n, w' = w.drewN n := by
  have c0 := h.c0
  by_cases hA : x.A = 0
  · have tA : (x.A == 0) = true := by simp [hA]
    have hv := hide (St.val_none o hA)
    clear hA
    go_enter Tryz.func139, Tryz.ntmps139
    go_wp2_with (go_at_call 171; refine (ref_all b q x hx _ h).mono ?_; rintro e w' ⟨rfl, rfl⟩)
    go_ret
    exact ⟨ret_int hv.out.symm, 0, rfl⟩
  · have tA : (x.A == 0) = false := by simp [hA]
    have hA : 0 < x.A := by have := hx.a0; omega
    have hv := hide (St.val_some o hA)
    obtain ⟨hm, hq⟩ := val_amounts hx hA o
    have P := product_yes _ _ _ hm hq
    clear hm hq hA
    go_enter Tryz.func139, Tryz.ntmps139
    go_wp2_with (go_at_call 171; refine (ref_all b q x hx _ h).mono ?_; rintro e w' ⟨rfl, rfl⟩)
    go_quiet ((first | (go_at_call 171; exact Calls.quiet_of_same (ref_all b q x hx _ (h.drewN _))) | (go_at_call 187; exact Calls.quiet_of_same (ref_shares b q x hx o _ (h.drewN _))) | (go_at_call 172; exact Calls.quiet_of_same (P _))))
    go_wp2
    go_ret
    exact ⟨ret_int hv.out.symm, _, rfl⟩
end Go.Proofs.YtaihcceobnfmhaaGreatDoor

namespace Go.Proofs.YtaihcceobnfmhaaGreatDoor
open Go.RowKit

theorem RefAt.setS {w : World} {b q : Nat} {x : St} (h : RefAt w b q x) (k : Nat) (hk : k < 6) (v : Int) : RefAt (w.setCell ⟨q, k, none⟩ (.int .i64 v)) b q (x.set k v x.T) where
  c0 := by rw [World.cell?_setCell_other _ _ _ _ (by simp; intro e; exact absurd e.symm h.ne)]; exact h.c0
  c1 := h.c1.imp fun _ g => by rw [World.cell?_setCell_other _ _ _ _ (by simp; intro e; exact absurd e.symm h.ne)]; exact g
  s := fun i hi => by
    by_cases e : i = k
    · subst e
      rw [World.cell?_setCell_same _ _ _ (h.s i hi), St.set_same]
    · have ne : (⟨q, k, none⟩ : Addr) ≠ ⟨q, i, none⟩ := fun g => e (by cases g; rfl)
      rw [World.cell?_setCell_other _ _ _ _ ne, St.set_other _ _ _ _ _ (by omega)]
      exact h.s i hi
  f0 := by rw [World.frozen?_setCell]; exact h.f0
  fs := fun i hi => by rw [World.frozen?_setCell]; exact h.fs i hi
  ne := h.ne
theorem RefAt.setT {w : World} {b q : Nat} {x : St} (h : RefAt w b q x) (T : Int) : RefAt (w.setCell ⟨b, 0, none⟩ (.int .i64 T)) b q ⟨T, x.s⟩ where
  c0 := World.cell?_setCell_same _ _ _ h.c0
  c1 := h.c1.imp fun _ g => by rw [World.cell?_setCell_other _ _ _ _ (by simp)]; exact g
  s := fun i hi => by rw [World.cell?_setCell_other _ _ _ _ (by simp; intro e; exact absurd e h.ne)]; exact h.s i hi
  f0 := by rw [World.frozen?_setCell]; exact h.f0
  fs := fun i hi => by rw [World.frozen?_setCell]; exact h.fs i hi
  ne := h.ne
theorem RefAt.wrote {w : World} {b q : Nat} {x : St} (h : RefAt w b q x) (k : Nat) (hk : k < 6) (v T : Int) : RefAt ((w.setCell ⟨q, k, none⟩ (.int .i64 v)).setCell ⟨b, 0, none⟩ (.int .i64 T)) b q (x.set k v T) ∧ Kept [b, q] w ((w.setCell ⟨q, k, none⟩ (.int .i64 v)).setCell ⟨b, 0, none⟩ (.int .i64 T)) :=
  ⟨(h.setS k hk v).setT T, ((Kept.refl _ _).setCell (by simp) _).setCell (by simp) _⟩

theorem isAmount_ref (n : Int) (w : World) :
    Calls Tryz.prog 170 #[.int .i64 n] w fun e w' => e = .returned (.bool (decide (0 ≤ n ∧ n ≤ 1125899906842624))) ∧ w' = w := by
  by_cases h0 : 0 ≤ n
  · by_cases h1 : n ≤ 1125899906842624
    · have e : decide (0 ≤ n ∧ n ≤ 1125899906842624) = true := by simp [h0, h1]
      rw [e]
      go_enter Tryz.func170, Tryz.ntmps170
      go_wp2
      go_ret
      exact ⟨rfl, rfl⟩
    · have e : decide (0 ≤ n ∧ n ≤ 1125899906842624) = false := by simp [h0]; omega
      rw [e]
      go_enter Tryz.func170, Tryz.ntmps170
      go_wp2
      go_ret
      exact ⟨rfl, rfl⟩
  · have e : decide (0 ≤ n ∧ n ≤ 1125899906842624) = false := by simp [h0]
    rw [e]
    go_enter Tryz.func170, Tryz.ntmps170
    go_wp2
    go_ret
    exact ⟨rfl, rfl⟩

/-- what an act leaves where it is refused -/
theorem ref_stay {b q : Nat} {x y : St} {w : World} (h : RefAt w b q x) (e : y = x) : RefAt w b q y ∧ Kept [b, q] w w := by
  subst e; exact ⟨h, Kept.refl _ _⟩
theorem RefAt.as {b q : Nat} {x y : St} {w w' : World} (h : RefAt w' b q x ∧ Kept [b, q] w w') (e : y = x) : RefAt w' b q y ∧ Kept [b, q] w w' := by subst e; exact h

set_option maxRecDepth 100000 in
set_option maxHeartbeats 1000000 in
theorem ref_add (b q : Nat) (x : St) (hx : x.Ok) (n : Int) (w : World) (h : RefAt w b q x) :
    Calls Tryz.prog 176 #[.pointer (some ⟨b, 0, none⟩), .int .i64 n] w fun e w' => e = .returned (.int .i64 (x.addC n)) ∧ RefAt w' b q (x.add n) ∧ Kept [b, q] w w' := by
  have c0 := h.c0
  have f0 := h.f0
  have t0 := hx.t0
  have t1 := hx.t1
  have I := isAmount_ref n
  by_cases hn : 0 ≤ n ∧ n ≤ 1125899906842624
  · rw [decide_eq_true hn] at I
    by_cases hA : x.A = 0
    · have e1 := hide (St.addC_none hn hA)
      have tA : (x.A == 0) = true := by simp [hA]
      clear hA hn
      go_enter Tryz.func176, Tryz.ntmps176
      go_wp2_with (first | (go_at_call 170; refine (I _).mono ?_; rintro e w' ⟨rfl, rfl⟩) | (go_at_call 171; refine (ref_all b q x hx _ h).mono ?_; rintro e w' ⟨rfl, rfl⟩))
      go_ret
      exact ⟨ret_int e1.out.symm, ref_stay h (St.add_no e1.out (by omega))⟩
    · have tA : (x.A == 0) = false := by simp [hA]
      by_cases hT : x.T + n ≤ 1125899906842624
      · have e1 := hide (St.addC_fine hn hA hT)
        clear hA
        obtain ⟨n0, n1⟩ := hn
        go_enter Tryz.func176, Tryz.ntmps176
        go_wp2_with (first | (go_at_call 170; refine (I _).mono ?_; rintro e w' ⟨rfl, rfl⟩) | (go_at_call 171; refine (ref_all b q x hx _ h).mono ?_; rintro e w' ⟨rfl, rfl⟩))
        go_ret
        exact ⟨ret_int e1.out.symm, RefAt.as ⟨h.setT _, (Kept.refl _ _).setCell (by simp) _⟩ (St.add_yes e1.out)⟩
      · have e1 := hide (St.addC_over hn hA (by omega))
        clear hA
        obtain ⟨n0, n1⟩ := hn
        go_enter Tryz.func176, Tryz.ntmps176
        go_wp2_with (first | (go_at_call 170; refine (I _).mono ?_; rintro e w' ⟨rfl, rfl⟩) | (go_at_call 171; refine (ref_all b q x hx _ h).mono ?_; rintro e w' ⟨rfl, rfl⟩))
        go_ret
        exact ⟨ret_int e1.out.symm, ref_stay h (St.add_no e1.out (by omega))⟩
  · rw [decide_eq_false hn] at I
    have e1 := hide (St.addC_bad (x := x) hn)
    clear hn
    go_enter Tryz.func176, Tryz.ntmps176
    go_wp2_with (go_at_call 170; refine (I _).mono ?_; rintro e w' ⟨rfl, rfl⟩)
    go_ret
    exact ⟨ret_int e1.out.symm, ref_stay h (St.add_no e1.out (by omega))⟩

theorem slash_cut (T p : Int) : T / 100 * p + T % 100 * p / 100 = T * p / 100 := by
  have e : T * p = T % 100 * p + T / 100 * p * 100 := by
    have h := Int.emod_add_mul_ediv T 100
    have : T % 100 * p + T / 100 * p * 100 = (T % 100 + 100 * (T / 100)) * p := by grind
    rw [this, h]
  rw [e, Int.add_mul_ediv_right _ _ (by omega)]
  omega
theorem slash_bd (T p : Int) (t0 : 0 ≤ T) (t1 : T ≤ 1125899906842624) (p0 : 0 ≤ p) (p1 : p ≤ 100) : 0 ≤ T / 100 * p ∧ T / 100 * p ≤ 1125899906842624 ∧ 0 ≤ T % 100 * p ∧ T % 100 * p ≤ 10000 ∧ 0 ≤ T * p / 100 ∧ T * p / 100 ≤ T := by
  have h0 : 0 ≤ T / 100 := by omega
  have h1 : 0 ≤ T % 100 ∧ T % 100 < 100 := by omega
  have g1 := Int.mul_nonneg h0 p0
  have g2 : T / 100 * p ≤ T / 100 * 100 := Int.mul_le_mul_of_nonneg_left p1 h0
  have g3 := Int.mul_nonneg h1.1 p0
  have g4 : T % 100 * p ≤ T % 100 * 100 := Int.mul_le_mul_of_nonneg_left p1 h1.1
  have g5 := Int.mul_nonneg t0 p0
  have g6 : T * p ≤ T * 100 := Int.mul_le_mul_of_nonneg_left p1 t0
  omega

set_option maxRecDepth 100000 in
set_option maxHeartbeats 1000000 in
theorem ref_slash (b q : Nat) (x : St) (hx : x.Ok) (p : Int) (w : World) (h : RefAt w b q x) :
    Calls Tryz.prog 199 #[.pointer (some ⟨b, 0, none⟩), .int .i64 p] w fun e w' => e = .returned (.tuple #[.int .i64 (x.slashN p), .int .i64 (x.slashC p)]) ∧ RefAt w' b q (x.slash p) ∧ Kept [b, q] w w' := by
  have c0 := h.c0
  have f0 := h.f0
  have t0 := hx.t0
  have t1 := hx.t1
  by_cases hp : 0 ≤ p ∧ p ≤ 100
  · have e1 := hide (St.slash_yes (x := x) hp)
    have e2 := hide (slash_cut x.T p)
    obtain ⟨g1, g2, g3, g4, g5, g6⟩ := slash_bd x.T p t0 t1 hp.1 hp.2
    obtain ⟨p0, p1⟩ := hp
    have g7 : x.T / 100 * p + x.T % 100 * p / 100 ≤ x.T := by rw [e2.out]; exact g6
    go_enter Tryz.func199, Tryz.ntmps199
    go_wp2
    go_ret2
    refine ⟨ret_int2 (e2.out.trans e1.out.2.1.symm) e1.out.1.symm, RefAt.as ⟨h.setT _, (Kept.refl _ _).setCell (by simp) _⟩ ?_⟩
    rw [e1.out.2.2, e2.out]
  · have e1 := hide (St.slash_no (x := x) hp)
    by_cases p0 : 0 ≤ p
    · have p1 : 100 < p := by omega
      clear hp
      go_enter Tryz.func199, Tryz.ntmps199
      go_wp2
      go_ret2
      exact ⟨ret_int2 e1.out.2.1.symm e1.out.1.symm, ref_stay h e1.out.2.2⟩
    · clear hp
      go_enter Tryz.func199, Tryz.ntmps199
      go_wp2
      go_ret2
      exact ⟨ret_int2 e1.out.2.1.symm e1.out.1.symm, ref_stay h e1.out.2.2⟩

set_option maxRecDepth 100000 in
set_option maxHeartbeats 1000000 in
theorem ref_leave (b q : Nat) (x : St) (hx : x.Ok) (o : Int) (w : World) (h : RefAt w b q x) :
    Calls Tryz.prog 173 #[.pointer (some ⟨b, 0, none⟩), .int .i64 o] w fun e w' => e = .returned (.tuple #[.int .i64 (x.leaveN o), .int .i64 (x.leaveC o)]) ∧ RefAt w' b q (x.leave o) ∧ Kept [b, q] w w' := by
  have c0 := h.c0
  obtain ⟨cap, c1⟩ := h.c1
  have f0 := h.f0
  have t0 := hx.t0
  have t1 := hx.t1
  by_cases ho : 0 ≤ o ∧ o < 6
  · have I := isOwner_yes o ho.1 ho.2
    obtain ⟨k, rfl⟩ : ∃ k : Nat, o = k := ⟨o.toNat, by omega⟩
    have hk : k < 6 := by omega
    have cs := h.s k hk
    have fs := h.fs k hk
    have ne := h.ne
    by_cases hs : x.s k = 0
    · have e1 := hide (St.leaveC_none ho hs)
      have ts : (x.s k == 0) = true := by simp [hs]
      clear hs ho
      go_enter Tryz.func173, Tryz.ntmps173
      go_wp2_with (go_at_call 130; refine (I _).mono ?_; rintro e w' ⟨rfl, rfl⟩)
      go_ret2
      exact ⟨ret_int2 (St.leave_no e1.out (by omega)).2.symm e1.out.symm, ref_stay h (St.leave_no e1.out (by omega)).1⟩
    · have e1 := hide (St.leaveC_fine ho hs)
      have ts : (x.s k == 0) = false := by simp [hs]
      have v0 := hx.val0 k
      have v1 := hx.val1 k
      clear hs ho
      go_enter Tryz.func173, Tryz.ntmps173
      go_wp2_with (first | (go_at_call 130; refine (I _).mono ?_; rintro e w' ⟨rfl, rfl⟩) | (go_at_call 139; refine (ref_value b q x hx k _ h).mono ?_; rintro e w' ⟨rfl, m, rfl⟩))
      go_ret2
      have hw := (h.drewN m).wrote k hk 0 (x.T - x.val k)
      exact ⟨ret_int2 (St.leave_yes e1.out).2.symm e1.out.symm, RefAt.as ⟨hw.1, ((Kept.refl _ _).drewN m).trans hw.2⟩ (St.leave_yes e1.out).1⟩
  · have I := isOwner_no o ho
    have e1 := hide (St.leaveC_bad (x := x) ho)
    clear ho
    go_enter Tryz.func173, Tryz.ntmps173
    go_wp2_with (go_at_call 130; refine (I _).mono ?_; rintro e w' ⟨rfl, rfl⟩)
    go_ret2
    exact ⟨ret_int2 (St.leave_no e1.out (by omega)).2.symm e1.out.symm, ref_stay h (St.leave_no e1.out (by omega)).1⟩
end Go.Proofs.YtaihcceobnfmhaaGreatDoor

namespace Go.Proofs.YtaihcceobnfmhaaGreatDoor
open Go.RowKit Go.Deep

theorem Tryz.infoInt : (Tryz.prog.info? 3).map (fun i => (i.zero, i.size, i.bytes)) = some (some (.int .i64 0), 1, 8) := by kernel_rfl
/-- six noughts -/
abbrev six : Array Value := #[.int .i64 0, .int .i64 0, .int .i64 0, .int .i64 0, .int .i64 0, .int .i64 0]
theorem made_six : madeCells #[.int .i64 0] 6 = six := by kernel_rfl
theorem make_six (w : World) : (Instr.makeSlice 31 (.int .i64 6) (.int .i64 6)).run Tryz.prog w = .ok (.slice (some ⟨w.heap.size, 0, none⟩) 6 6) (w.alloc (.cells six 3)) := by
  have h := run_make_row' (P := Tryz.prog) 31 3 (.int .i64 0) 8 Tryz.underlying31 Tryz.infoInt rfl .i64 .i64 6 (by omega) (by omega) w
  rw [made_six] at h
  exact h
theorem six_cell (i : Nat) (h : i < 6) : six[i]? = some (.int .i64 0) := by
  have : i = 0 ∨ i = 1 ∨ i = 2 ∨ i = 3 ∨ i = 4 ∨ i = 5 := by omega
  rcases this with rfl | rfl | rfl | rfl | rfl | rfl <;> rfl
theorem ref_fresh (w : World) (t u : TypeId) : RefAt ((w.alloc (.cells six t)).alloc (.cells #[.int .i64 0, .slice (some ⟨w.heap.size, 0, none⟩) 6 6] u)) (w.heap.size + 1) w.heap.size ⟨0, fun _ => 0⟩ where
  c0 := cell_new _ _ _ _ _ _ (by simp) rfl
  c1 := ⟨6, cell_new _ _ _ _ _ _ (by simp) rfl⟩
  s := fun i hi => by
    rw [World.cell?_alloc_lt _ _ _ (by simp)]
    exact cell_new _ _ _ _ _ _ rfl (six_cell i hi)
  f0 := World.frozen?_alloc_at _ _ _ _ (by simp)
  fs := fun i _ => by
    rw [World.frozen?_alloc_past _ _ _ (by simp)]
    exact World.frozen?_alloc_at _ _ _ _ rfl
  ne := by omega

set_option maxRecDepth 100000 in
theorem ref_new (w : World) :
    Calls Tryz.prog 122 #[] w fun e w' => ∃ b q, e = .returned (.pointer (some ⟨b, 0, none⟩)) ∧ w.heap.size ≤ b ∧ w.heap.size ≤ q ∧ b < w'.heap.size ∧ q < w'.heap.size ∧ RefAt w' b q ⟨0, fun _ => 0⟩ ∧ Below w.heap.size w w' := by
  have hm := make_six
  go_enter Tryz.func122, Tryz.ntmps122
  go_wp2
  go_ret
  exact ⟨w.heap.size + 1, w.heap.size, rfl, by omega, by omega, by simp, by simp; omega, ref_fresh w _ _, ((Below.refl _ _).alloc (Nat.le_refl _) _).alloc (by simp) _⟩
end Go.Proofs.YtaihcceobnfmhaaGreatDoor
