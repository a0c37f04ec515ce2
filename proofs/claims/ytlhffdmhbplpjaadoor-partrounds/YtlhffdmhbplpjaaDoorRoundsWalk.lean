/-
  The law PartRounds, walked: for every three ints it returns true.
-/
import Derived.Test.YtlhffdmhbplpjaaDoorOfs
import Derived.Test.YtlhffdmhbplpjaaDoorCode
import Derived.Test.YtlhffdmhbplpjaaDoorPartBackWalk
namespace Go.Proofs.YtlhffdmhbplpjaaDoor
open Go.RowKit

/-- what Down, or Up, and the document's answer tell alike -/
def Alike4 (A : Nat → Addr) (v : Int) (e1 : Value) (d : Int) : Prop := (e1 = .nilIface ∧ d = 0) ∨ (v = 0 ∧ e1 = sent (A 1) ∧ d = 2)

set_option maxRecDepth 100000 in
set_option maxHeartbeats 4000000 in
theorem rounds_of (a b c v u d k : Int) (e1 e2 : Value) (A : Nat → Addr) (w : World) (hL : Laid w A) (h1 : Alike4 A v e1 d) (h2 : Alike4 A u e2 k)
    (hD : ∀ w', Laid w' A → Calls Tryd.prog 19 #[.int .i64 a, .int .i64 b, .int .i64 c] w' fun e w'' => e = .returned (.tuple #[.int .i64 v, e1]) ∧ ∃ n, w'' = w'.drewN n)
    (hU : ∀ w', Laid w' A → Calls Tryd.prog 20 #[.int .i64 a, .int .i64 b, .int .i64 c] w' fun e w'' => e = .returned (.tuple #[.int .i64 u, e2]) ∧ ∃ n, w'' = w'.drewN n)
    (hDo : ∀ w', Calls Tryd.prog 27 #[.int .i64 a, .int .i64 b, .int .i64 c] w' fun e w'' => e = .returned (.tuple #[.int .i64 v, .int .i64 d]) ∧ w'' = w')
    (hUo : ∀ w', Calls Tryd.prog 28 #[.int .i64 a, .int .i64 b, .int .i64 c] w' fun e w'' => e = .returned (.tuple #[.int .i64 u, .int .i64 k]) ∧ w'' = w') :
    Calls Tryd.prog 7 #[.int .i64 a, .int .i64 b, .int .i64 c] w fun e w' => e = .returned (.bool true) ∧ Below w.heap.size w w' := by
  have T1 : ∀ w', Below w.heap.size w w' → Tells w' e1 d (-1) := fun w' hB => by
    rcases h1 with ⟨rfl, rfl⟩ | ⟨_, rfl, rfl⟩
    · exact tells_nil w'
    · exact tells_sent (hL.below hB) 1 (by omega)
  have T2 : ∀ w', Below w.heap.size w w' → Tells w' e2 k (-1) := fun w' hB => by
    rcases h2 with ⟨rfl, rfl⟩ | ⟨_, rfl, rfl⟩
    · exact tells_nil w'
    · exact tells_sent (hL.below hB) 1 (by omega)
  have HT1 := hide T1
  have HT2 := hide T2
  have HD := hide hD
  have HU := hide hU
  have HDo := hide hDo
  have HUo := hide hUo
  have tv : (v == v) = true := by simp
  have tu : (u == u) = true := by simp
  clear hD hU hDo hUo T1 T2 h1 h2
  go_enter Tryd.func7, Tryd.ntmps7
  go_wp2_with fail
  refine (parted_yes _).mono ?_
  rintro e w1 ⟨rfl, n1, hw1⟩
  have hB1 : Below w.heap.size w w1 := by rw [hw1]; exact below_drewN (Below.refl _ _) n1
  clear hw1
  go_wp2_with fail
  refine (HD.out w1 (hL.below hB1)).mono ?_
  rintro e w2 ⟨rfl, n2, hw2⟩
  have hB2 : Below w.heap.size w w2 := by rw [hw2]; exact below_drewN hB1 n2
  clear hw2 hB1 HD
  go_wp2_with fail
  refine (HU.out w2 (hL.below hB2)).mono ?_
  rintro e w3 ⟨rfl, n3, hw3⟩
  have hB3 : Below w.heap.size w w3 := by rw [hw3]; exact below_drewN hB2 n3
  clear hw3 hB2 HU
  go_wp2_with fail
  refine (HDo.out w3).mono ?_
  rintro e w4 ⟨rfl, rfl⟩
  clear HDo
  go_wp2_with fail
  refine (HUo.out _).mono ?_
  rintro e w5 ⟨rfl, rfl⟩
  clear HUo
  go_wp2_with fail
  refine (coded_of (HT1.out _ hB3)).mono ?_
  rintro e w6 ⟨rfl, hB6'⟩
  have hB6 := hB3.trans (hB6'.mono hB3.size)
  clear hB6' HT1
  go_wp2_with fail
  refine (coded_of (HT2.out _ hB6)).mono ?_
  rintro e w7 ⟨rfl, hB7'⟩
  have hB7 := hB6.trans (hB7'.mono hB6.size)
  clear hB7' HT2
  go_wp2
  go_ret
  exact ⟨rfl, hB7⟩

/-- The law, for every three ints. -/
theorem rounds_walk (a b c : Int) (A : Nat → Addr) (w : World) (hL : Laid w A) :
    Calls Tryd.prog 7 #[.int .i64 a, .int .i64 b, .int .i64 c] w fun e w' => e = .returned (.bool true) ∧ Below w.heap.size w w' := by
  by_cases hd : Amounts a b c ∧ a * b / c ≤ 1125899906842624
  · by_cases hu : Amounts a b c ∧ upQ (a * b) c ≤ 1125899906842624
    · exact rounds_of a b c _ _ _ _ _ _ A w hL (.inl ⟨rfl, rfl⟩) (.inl ⟨rfl, rfl⟩) (fun w' _ => down_yes a b c hd.1 hd.2 w') (fun w' _ => up_yes a b c hu.1 hu.2 w') (fun w' => downOf_yes a b c hd.1 hd.2 w') (fun w' => upOf_yes a b c hu.1 hu.2 w')
    · exact rounds_of a b c _ _ _ _ _ _ A w hL (.inl ⟨rfl, rfl⟩) (.inr ⟨rfl, rfl, rfl⟩) (fun w' _ => down_yes a b c hd.1 hd.2 w') (fun w' h => up_no a b c hu (A 1) w' h.v1) (fun w' => downOf_yes a b c hd.1 hd.2 w') (fun w' => upOf_no a b c hu w')
  · by_cases hu : Amounts a b c ∧ upQ (a * b) c ≤ 1125899906842624
    · exact rounds_of a b c _ _ _ _ _ _ A w hL (.inr ⟨rfl, rfl, rfl⟩) (.inl ⟨rfl, rfl⟩) (fun w' h => down_no a b c hd (A 1) w' h.v1) (fun w' _ => up_yes a b c hu.1 hu.2 w') (fun w' => downOf_no a b c hd w') (fun w' => upOf_yes a b c hu.1 hu.2 w')
    · exact rounds_of a b c _ _ _ _ _ _ A w hL (.inr ⟨rfl, rfl, rfl⟩) (.inr ⟨rfl, rfl, rfl⟩) (fun w' h => down_no a b c hd (A 1) w' h.v1) (fun w' h => up_no a b c hu (A 1) w' h.v1) (fun w' => downOf_no a b c hd w') (fun w' => upOf_no a b c hu w')
end Go.Proofs.YtlhffdmhbplpjaaDoor
