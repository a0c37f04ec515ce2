/-
  The law Names, walked: it returns true.
-/
import Derived.Test.YtlhffdmhbplpjaaDoorCode
namespace Go.Proofs.YtlhffdmhbplpjaaDoor
open Go.RowKit

/-- so many ints laid one behind another -/
def Ints (w : World) (b n : Nat) (Z : Nat → Int) : Prop := ∀ i, i < n → w.cell? ⟨b, i, none⟩ = some (.int .i64 (Z i))

set_option maxRecDepth 100000 in
set_option maxHeartbeats 1000000 in
theorem sameInts_yes (b c n ca cc : Nat) (Z : Nat → Int) (w : World) (hn : n ≤ 1000) (hb : Ints w b n Z) (hc : Ints w c n Z) :
    Calls Tryd.prog 14 #[.slice (some ⟨b, 0, none⟩) n ca, .slice (some ⟨c, 0, none⟩) n cc] w fun e w' => e = .returned (.bool true) ∧ ∃ m, w' = w.drewN m := by
  have t0 : ((n : Int) != (n : Int)) = false := by simp
  go_enter Tryd.func14, Tryd.ntmps14
  go_wp2
  go_loopw [5] (fun i w' => ∃ k : Nat, k ≤ n ∧ i = .int .i64 k ∧ ∃ m, w' = w.drewN m) (fun i _ => n - (intOf i).toNat)
  case atStart => exact ⟨0, Nat.zero_le _, rfl, 0, rfl⟩
  case round =>
    obtain ⟨k, hk, rfl, m, rfl⟩ := hrel
    by_cases hlt : k < n
    · have c0 := hb k hlt
      have c1 := hc k hlt
      have t1 : (Z k != Z k) = false := by simp
      clear hb hc
      go_wp2
      go_quiet (fail)
      go_wp2
      go_roundw
      case rel => exact ⟨k + 1, by omega, by go_num, _, rfl⟩
      case measure => simp [intOf]; omega
    · clear hb hc
      go_wp2
      go_ret
      exact ⟨rfl, _, rfl⟩

theorem new_calls (s : ByteArray) (w : World) : Calls Tryd.prog 17 #[.string s] w fun e w' => e = .returned (sent ⟨w.heap.size, 0, none⟩) ∧ w' = w.alloc (.cells #[.string s] 99) := by
  go_enter Tryd.func17, Tryd.ntmps17
  go_wp2
  go_ret
  exact ⟨rfl, rfl⟩

/-- the thirteen numbers of package api -/
def bounds : Nat → Int := fun i => [6, 3, 1125899906842624, 8, 4, 2, 2, 100, 8, 1048576, 3000, 100, 16].getD i 0
abbrev thirteen : Array Value := #[.int .i64 6, .int .i64 3, .int .i64 1125899906842624, .int .i64 8, .int .i64 4, .int .i64 2, .int .i64 2, .int .i64 100, .int .i64 8, .int .i64 1048576, .int .i64 3000, .int .i64 100, .int .i64 16]
theorem thirteen_at : ∀ i, i < 13 → thirteen[i]? = some (.int .i64 (bounds i))
  | 0, _ => rfl | 1, _ => rfl | 2, _ => rfl | 3, _ => rfl | 4, _ => rfl | 5, _ => rfl | 6, _ => rfl | 7, _ => rfl | 8, _ => rfl | 9, _ => rfl | 10, _ => rfl | 11, _ => rfl | 12, _ => rfl
  | n + 13, h => absurd h (by omega)

set_option maxRecDepth 100000 in
set_option maxHeartbeats 4000000 in
theorem names_walk (A : Nat → Addr) (w : World) (hL : Laid w A) :
    Calls Tryd.prog 3 #[] w fun e w' => e = .returned (.bool true) ∧ Below w.heap.size w w' := by
  have hB1 : Below w.heap.size w ((w.alloc (.cells thirteen 3)).alloc (.cells thirteen 3)) := ((Below.refl _ _).alloc (Nat.le_refl _) _).alloc (by simp) _
  have i1 : Ints ((w.alloc (.cells thirteen 3)).alloc (.cells thirteen 3)) w.heap.size 13 bounds := fun i hi => by
    rw [World.cell?_alloc_lt _ _ ⟨w.heap.size, i, none⟩ (by simp)]
    exact cell_new _ _ _ _ _ _ rfl (thirteen_at i hi)
  have i2 : Ints ((w.alloc (.cells thirteen 3)).alloc (.cells thirteen 3)) (w.heap.size + 1) 13 bounds := fun i hi => cell_new _ _ _ _ _ _ (by simp) (thirteen_at i hi)
  have si := sameInts_yes w.heap.size (w.heap.size + 1) 13 13 13 bounds _ (by omega) i1 i2
  clear i1 i2
  go_enter Tryd.func3, Tryd.ntmps3
  go_wp2_with fail
  refine si.mono ?_
  rintro e w1 ⟨rfl, m, rfl⟩
  obtain ⟨w2, hw2⟩ : ∃ w2, w2 = (((w.alloc (.cells thirteen 3)).alloc (.cells thirteen 3)).drewN m) := ⟨_, rfl⟩
  rw [← hw2]
  have hB2 : Below w.heap.size w w2 := by rw [hw2]; exact below_drewN hB1 m
  clear hw2 si hB1
  have hL2 := hL.below hB2
  obtain ⟨v0, v1, v2, v3, v4, v5, v6, v7, v8, v9, _, _, _⟩ := hL2
  go_wp2_with fail
  clear v0 v1 v2 v3 v4 v5 v6 v7 v8 v9
  have hB3 : Below w.heap.size w (w2.alloc (.cells (ten A) 25)) := hB2.alloc hB2.size _
  have hT : ∀ i, i < 10 → (w2.alloc (.cells (ten A) 25)).cell? ⟨w2.heap.size, i, none⟩ = some (sent (A i)) := fun i hi => cell_new _ _ _ _ _ _ rfl (ten_at A i hi)
  have hz : w2.heap.size < (w2.alloc (.cells (ten A) 25)).heap.size := by simp
  generalize w2.heap.size = b at *
  generalize w2.alloc (.cells (ten A) 25) = w3 at *
  go_loopw [4] (fun i w' => ∃ k : Nat, k ≤ 10 ∧ i = .int .i64 k ∧ Below w3.heap.size w3 w') (fun i _ => 10 - (intOf i).toNat)
  case atStart => exact ⟨0, Nat.zero_le _, rfl, Below.refl _ _⟩
  case round =>
    obtain ⟨k, hk, rfl, hB4⟩ := hrel
    have hBr : Below w.heap.size w wr := hB3.trans (hB4.mono hB3.size)
    have hLr := hL.below hBr
    by_cases hlt : k < 10
    · have hc : wr.cell? ⟨b, k, none⟩ = some (sent (A k)) := by rw [hB4.cell (p := ⟨b, k, none⟩) hz]; exact hT k hlt
      have hBa : Below wr.heap.size wr (wr.alloc (.cells #[.int .i64 7, sent (A k)] 31)) := (Below.refl _ _).alloc (Nat.le_refl _) _
      have tf := tells_flt (hLr.below hBa) wr.heap.size k 7 hlt (cell_new _ _ _ _ _ _ rfl rfl) (cell_new _ _ _ _ _ _ rfl rfl) _ (Below.refl _ _)
      have TF := hide tf
      have t1 : ((k : Int) + 1 != (k : Int) + 1) = false := by simp
      clear tf hT
      go_wp2_with fail
      refine TF.out.mono ?_
      rintro e w5 ⟨rfl, hB5⟩
      have hB6 : Below wr.heap.size wr w5 := hBa.trans (hB5.mono hBa.size)
      have hc5 : w5.cell? ⟨b, k, none⟩ = some (sent (A k)) := old_cell hB6 hc
      have TS := hide (coded_of (tells_sent (hLr.below hB6) k hlt))
      clear TF hB5 hBa hc
      go_wp2_with fail
      refine TS.out.mono ?_
      rintro e w7 ⟨rfl, hB7⟩
      have hB8 : Below w3.heap.size w3 w7 := hB4.trans ((hB6.trans (hB7.mono hB6.size)).mono hB4.size)
      clear TS hB7 hB6 hc5
      go_wp2
      go_roundw
      case rel => exact ⟨k + 1, by omega, by go_num, hB8⟩
      case measure => simp [intOf]; omega
    · clear hT
      go_wp2_with fail
      refine (new_calls _ _).mono ?_
      rintro e w5 ⟨rfl, hw5⟩
      have hB5 : Below wr.heap.size wr w5 := by rw [hw5]; exact (Below.refl _ _).alloc (Nat.le_refl _) _
      have hpl : Bare w5 ⟨wr.heap.size, 0, none⟩ := by rw [hw5]; exact Bare.new _ _ _ _
      have hne : ∀ i, i < 10 → (⟨wr.heap.size, 0, none⟩ : Addr) ≠ A i := fun i hi e => by
        have := (hLr.plain i hi).lt
        rw [← e] at this
        exact Nat.lt_irrefl _ this
      have CO := hide (code_other ⟨wr.heap.size, 0, none⟩ A w5 (hLr.below hB5) hpl hne)
      have hB6 : Below w.heap.size w w5 := hBr.trans (hB5.mono hBr.size)
      clear hw5 hpl hne hB5
      go_wp2_with fail
      refine CO.out.mono ?_
      rintro e w7 ⟨rfl, hB7⟩
      have hB8 : Below w.heap.size w w7 := hB6.trans (hB7.mono hB6.size)
      clear hB7 hB6 CO
      go_wp2_with fail
      refine (coded_of (tells_nil w7)).mono ?_
      rintro e w9 ⟨rfl, hB9⟩
      have hB10 : Below w.heap.size w w9 := hB8.trans (hB9.mono hB8.size)
      clear hB9
      go_wp2
      go_ret
      exact ⟨rfl, hB10⟩
end Go.Proofs.YtlhffdmhbplpjaaDoor
