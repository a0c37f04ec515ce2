/-
  The law LotsApart, walked.
-/
import Derived.Test.YtlhffdmhbplpjaaLotsMix
import Derived.Deep.RegionHeld3
namespace Go.Proofs.Ytlhffdmhbplpjaa
open Go.RowKit

theorem Try.infoU64 : (Try.prog.info? 22).map (fun i => (i.zero, i.size, i.bytes)) = some (some (.int .u64 0), 1, 8) := by kernel_rfl
/-- the i-th lot of a seed -/
def lotN (seed i : Nat) : Nat := mixN (stN seed (i + 1))
theorem nextS_st (seed k : Nat) : nextS (stN seed k) = stN seed (k + 1) := (stN_succ seed k).symm
theorem nextL_st (seed k : Nat) : nextL (stN seed k) = lotN seed k := by unfold nextL lotN; rw [nextS_st]
theorem st_zero (seed : Nat) (h : seed < W64) : stN seed 0 = seed := by unfold stN; rw [Nat.zero_mul, Nat.add_zero]; exact Nat.mod_eq_of_lt h
/-- the lots so far, as cells -/
def lotCells (seed k : Nat) : List Value := (List.range k).map fun i => .int .u64 (lotN seed i)
theorem lotCells_next (seed k : Nat) : lotCells seed (k + 1) = lotCells seed k ++ [.int .u64 (lotN seed k)] := by unfold lotCells; rw [List.range_succ, List.map_append]; rfl
theorem lotCells_at (seed k j : Nat) (h : j < k) : (lotCells seed k)[j]? = some (.int .u64 (lotN seed j)) := by unfold lotCells; rw [List.getElem?_map, List.getElem?_range h]; rfl
theorem lotCells_len (seed k : Nat) : (lotCells seed k).length = k := by simp [lotCells]
/-- a row that is owned: its shape, its cells -/
theorem owned_shape {w : World} {base k : Nat} {e : TypeId} {v : Value} {xs : List Value} (h : w.ownsRow base e 1 v k xs) : ∃ ao g cap, v = .slice ao k cap ∧ k ≤ cap ∧ (0 < k → ao = some ⟨g, 0, none⟩) ∧ ∀ j u, xs[j]? = some u → w.cell? ⟨g, j, none⟩ = some u := by
  rcases h.2 with ⟨rfl, rfl⟩ | ⟨g, cap, cur, rfl, hb, hg, h1, h2, h3, h4⟩
  · refine ⟨none, 0, 0, rfl, Nat.le_refl _, fun h => by omega, fun j u hj => ?_⟩
    have : xs = [] := List.eq_nil_of_length_eq_zero (by simpa using h.1)
    rw [this] at hj; simp at hj
  · refine ⟨_, g, cap, rfl, h1, fun _ => rfl, fun j u hj => ?_⟩
    rw [← h4, List.getElem?_take] at hj
    split at hj
    · simp [World.cell?, hg]; simpa using hj
    · cases hj

theorem one_cell (w : World) (x : Value) (t : TypeId) : ∀ j u, [x][j]? = some u → (w.alloc (.cells #[x] t)).cell? ((⟨w.heap.size, 0, none⟩ : Addr).add j) = some u := by
  intro j u hj
  match j, hj with
  | 0, hj =>
    simp at hj
    subst hj
    rw [add_plain]
    exact cell_new _ _ _ _ _ _ rfl rfl
theorem apart_out (a : Option Addr) (len cap seed : Nat) (q c : Int) (w : World) (hm : len ≤ 9223372036854775807) (h : ¬ (0 ≤ q ∧ q ≤ 200 ∧ len ≤ 60 ∧ 0 ≤ c ∧ c ≤ len)) :
    Calls Try.prog 3 #[.int .u64 seed, .int .i64 q, .slice a len cap, .int .i64 c] w fun e w' => e = .returned (.bool true) ∧ Below w.heap.size w w' := by
  by_cases h1 : q < 0
  · clear h
    go_enter Try.func3, Try.ntmps3
    go_wp2_with (go_at_call 4; refine (lotted_of _).mono ?_; rintro e w1 ⟨rfl, hB1⟩)
    go_ret
    exact ⟨rfl, hB1⟩
  · by_cases h2 : 200 < q
    · clear h
      go_enter Try.func3, Try.ntmps3
      go_wp2_with (go_at_call 4; refine (lotted_of _).mono ?_; rintro e w1 ⟨rfl, hB1⟩)
      go_ret
      exact ⟨rfl, hB1⟩
    · by_cases h3 : 60 < len
      · clear h
        go_enter Try.func3, Try.ntmps3
        go_wp2_with (go_at_call 4; refine (lotted_of _).mono ?_; rintro e w1 ⟨rfl, hB1⟩)
        go_ret
        exact ⟨rfl, hB1⟩
      · by_cases h4 : c < 0
        · clear h
          go_enter Try.func3, Try.ntmps3
          go_wp2_with (go_at_call 4; refine (lotted_of _).mono ?_; rintro e w1 ⟨rfl, hB1⟩)
          go_ret
          exact ⟨rfl, hB1⟩
        · have h5 : (len : Int) < c := by omega
          clear h
          go_enter Try.func3, Try.ntmps3
          go_wp2_with (go_at_call 4; refine (lotted_of _).mono ?_; rintro e w1 ⟨rfl, hB1⟩)
          go_ret
          exact ⟨rfl, hB1⟩

theorem LotAt.grown {w w' : World} {b s : Nat} {row : Option Nat} (h : LotAt w b s) (hg : w.grownBy w' row) (hr : ∀ k, row = some k → b < k) : LotAt w' b s := by
  have e := hg.block b h.blk (fun e => by have := hr b e.symm; omega)
  exact ⟨by rw [World.cell?_of_block (a := ⟨b, 0, none⟩) e]; exact h.c, by rw [World.frozen?_of_block (a := ⟨b, 0, none⟩) e]; exact h.f, h.lt⟩
/-- what OwnInts makes of a slice -/
def OwnsOf (w : World) (v : Value) (n : Nat) (W : Nat → Int) : Prop :=
  ∀ w', Below w.heap.size w w' → Calls Try.prog 8 #[v] w' fun e w'' => ∃ a m c, e = .returned (.slice a n c) ∧ Hid (0 < n → a = some ⟨m, 0, none⟩) ∧ Hid (0 < n → m < w''.heap.size) ∧ Ints w'' m 0 n W ∧ Below w.heap.size w w''

set_option maxRecDepth 100000 in
set_option maxHeartbeats 4000000 in
theorem apart_walk (a : Option Addr) (len cap seed q c : Nat) (W : Nat → Int) (w : World) (hs : seed < W64) (hq : q ≤ 200) (hn : len ≤ 60) (hc : c ≤ len) (v1 v2 : Value)
    (s1 : ∀ x : World, (Instr.slice 23 (.slice a len cap) none (some (.int .i64 c)) none).run Try.prog x = .ok v1 x) (s2 : ∀ x : World, (Instr.slice 23 (.slice a len cap) (some (.int .i64 c)) none none).run Try.prog x = .ok v2 x)
    (O1 : OwnsOf w v1 c W) (O2 : OwnsOf w v2 (len - c) (fun i => W (c + i))) (O3 : OwnsOf w (.slice a len cap) len W) :
    Calls Try.prog 3 #[.int .u64 seed, .int .i64 q, .slice a len cap, .int .i64 c] w fun e w' => e = .returned (.bool true) ∧ Below w.heap.size w w' := by
  obtain ⟨i0, hi, hz0, hz1, hz2⟩ := info_parts Try.infoU64
  have HO1 := hide O1
  have HO2 := hide O2
  have HO3 := hide O3
  clear O1 O2 O3
  go_enter Try.func3, Try.ntmps3
  go_wp2_with fail
  refine (lotted_of w).mono ?_
  rintro e w1 ⟨rfl, hB1⟩
  go_wp2_with fail
  refine (prog_newLot seed hs w1).mono ?_
  rintro e w2 ⟨lp, rfl, hlp, P, hB2⟩
  have hB2' := hB1.trans (hB2.mono hB1.size)
  have g1 : w.heap.size ≤ lp := by have := hB1.size; omega
  have P' : LotAt w2 lp (stN seed 0) := by rw [st_zero seed hs]; exact P
  clear hB2 hB1 hlp P
  go_wp2_with fail
  go_loopw [8, 11, 12] (fun r al i wr => ∃ k : Nat, k ≤ q ∧ r = .bool false ∧ i = .int .i64 k ∧ LotAt wr lp (stN seed k) ∧ wr.ownsRow (lp + 1) 22 1 al k (lotCells seed k) ∧ Below w.heap.size w wr) (fun _ _ i _ => q - (intOf i).toNat)
  case atStart => exact ⟨0, Nat.zero_le _, rfl, rfl, P', World.ownsRow_nil _ _ _ _, hB2'⟩
  case round =>
    clear P' hB2'
    obtain ⟨k, hk, rfl, rfl, P, R, hB⟩ := hrel
    by_cases hlt : k < q
    · have N := prog_next lp (stN seed k) wr P
      rw [nextL_st, nextS_st] at N
      have P1 := P.set (stN seed (k + 1)) (Nat.mod_lt _ (by decide))
      have hB3 := hB.setCell (p := ⟨lp, 0, none⟩) g1 (.int .u64 (stN seed (k + 1)))
      have R1 := ownsRow_setCell_below R (a := ⟨lp, 0, none⟩) (Nat.lt_succ_self lp) (.int .u64 (stN seed (k + 1)))
      go_wp2_with fail
      refine N.mono ?_
      rintro e w4 ⟨rfl, rfl⟩
      generalize wr.setCell ⟨lp, 0, none⟩ (.int .u64 (stN seed (k + 1))) = w5 at *
      clear N R P hB
      obtain ⟨ao, g, cp, rfl, hcp, hao, hcl⟩ := owned_shape R1
      have HA := hide hao
      have HC := hide hcl
      clear hao hcl
      go_wp2_with fail
      go_loop [8, 14] (fun r j => r = .bool false ∧ ∃ i : Nat, i ≤ k ∧ j = .int .i64 i) (fun _ j => k - (intOf j).toNat)
      case atStart => exact ⟨rfl, 0, Nat.zero_le _, rfl⟩
      case round =>
        obtain ⟨rfl, j, hj, rfl⟩ := hrel
        by_cases hjk : j < k
        · obtain rfl := HA.out (by omega)
          have cj := HC.out j _ (lotCells_at seed k j hjk)
          have dj : (((lotN seed j : Nat) : Int) == ((lotN seed k : Nat) : Int)) = false := by
            have : lotN seed j ≠ lotN seed k := fun e => by
              have := lots_apart seed j k (by show j + 1 < 18446744073709551616; omega) (by show k + 1 < 18446744073709551616; omega) e
              omega
            simp; omega
          go_wp2_with fail
          go_round
          case rel => exact ⟨rfl, j + 1, by omega, by go_num⟩
          case measure => simp [intOf]; omega
        · obtain rfl : k = j := by omega
          clear hj hjk
          go_wp2_with (at_builtin; refine wpList_append_own _ rfl (.tmp 65) (.tmp 67) 27 rfl (lp + 1) 22 i0 (.int .u64 0) 1 8 Try.underlying27 hi hz0 hz1 hz2 rfl (by decide) _ k (lotCells seed k) rfl (R1.alloc _) ⟨w5.heap.size, 0, none⟩ 1 1 [.int .u64 (lotN seed k)] rfl rfl (one_cell w5 _ _) (by simp [Value.oneCell']) (by simp only [maxLen]; omega) (by omega) (by have := P1.blk; simp; omega) ?_; intro v' w6 hown hgrow _)
          rw [← lotCells_next] at hown
          have rw5 := R1.lt
          have P6 := (P1.kept (Kept.of_below (X := []) ((Below.refl w5.heap.size w5).alloc (Nat.le_refl _) _)) (by simp)).grown hgrow (fun j hj => by have := (rw5 j hj).1; omega)
          have hB6 := (hB3.alloc hB3.size _).grown hgrow (by have := hB3.size; simp; omega) (fun j hj => by have := (rw5 j hj).1; omega)
          go_roundw
          case rel => exact ⟨k + 1, by omega, rfl, by go_num, P6, hown, hB6⟩
          case measure => simp [intOf]; omega
    · obtain rfl : q = k := by omega
      clear hlt hk R P
      have E : mixTo (fun i => W (c + i)) (mixTo W seed c) (len - c) = mixTo W seed len := by rw [← mixTo_cut, Nat.add_sub_cancel' hc]
      have hm := mixTo_lt W seed hs c
      have d1 : (((mixTo W seed len : Nat) : Int) == ((mixTo W seed len : Nat) : Int)) = true := by simp
      have HE := hide E
      clear E
      go_wp2_with fail
      go_region_held3 (fun _ => True) (exact trivial)
        (first
          | (go_at_call_of 8 v1; refine (HO1.out _ (by first | exact hB | exact hB.drew | exact below_drewN hB _)).mono ?_; rintro e x1 ⟨a1, m1, c1, rfl, ha1, hm1, hI1, hB1⟩; have M1 := prog_mix a1 m1 0 c c1 seed W hs (by omega) x1 ha1 hm1 hI1; clear ha1 hm1 hI1)
          | (go_at_call_of 7 (Value.slice a1 c c1); refine M1.mono ?_; rintro e x2 ⟨rfl, hB2⟩; have hB3 := hB1.trans (hB2.mono hB1.size); clear M1 hB2)
          | (go_at_call_of 8 v2; refine (HO2.out _ hB3).mono ?_; rintro e x3 ⟨a2, m2, c2, rfl, ha2, hm2, hI2, hB4⟩; have M2 := prog_mix a2 m2 0 (len - c) c2 (mixTo W seed c) (fun i => W (c + i)) hm (by omega) x3 ha2 hm2 hI2; rw [HE.out] at M2; clear ha2 hm2 hI2)
          | (go_at_call_of 7 (Value.slice a2 (len - c) c2); refine M2.mono ?_; rintro e x4 ⟨rfl, hB5⟩; have hB6 := hB4.trans (hB5.mono hB4.size); clear M2 hB5)
          | (go_at_call_of 8 (Value.slice a len cap); refine (HO3.out _ hB6).mono ?_; rintro e x5 ⟨a3, m3, c3, rfl, ha3, hm3, hI3, hB7⟩; have M3 := prog_mix a3 m3 0 len c3 seed W hs (by omega) x5 ha3 hm3 hI3; clear ha3 hm3 hI3)
          | (go_at_call_of 7 (Value.slice a3 len c3); refine M3.mono ?_; rintro e x6 ⟨rfl, hB8⟩; have hB9 := hB7.trans (hB8.mono hB7.size); clear M3 hB8))
      all_goals go_wp2_with fail
      all_goals go_ret
      all_goals exact ⟨rfl, hB9⟩
end Go.Proofs.Ytlhffdmhbplpjaa
