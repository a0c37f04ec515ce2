/-
  The document's stakes (bakehouseref2.Stakes) by their contracts: what waits of an owner's, and all together.
  Numbers laid one behind another.
-/
import Derived.Test.YtlhffdmhbplpjabGreatDoorRefStkTells
import Derived.Test.YtlhffdmhbplpjabGreatDoorKeptX
namespace Go.Proofs.YtlhffdmhbplpjabGreatDoor
open Go.RowKit

set_option maxRecDepth 100000 in
theorem rs_waits (tag : Nat → Nat) (sb pb : Nat) (v : Value) (L : List Wt) (S : Sk) (hS : S.Ok) (o b c : Int) (hL : L.length ≤ 1000) (w : World) (h : RSkAt tag w sb pb v L S) :
    Calls Tryz.prog 18 #[.pointer (some ⟨sb, 0, none⟩), .int .i64 o, .int .i64 b, .int .i64 c] w fun e w' => e = .returned (.int .i64 ((S.W b c).val o)) ∧ ∃ n, w' = w.drewN n := by
  have I := rs_find tag sb pb v L S b c hL w h
  have c1 := h.c1
  go_enter Tryz.func18, Tryz.ntmps18
  go_wp2_with fail
  refine I.mono ?_
  rintro e w' ⟨⟨i, rfl, hf⟩, rfl⟩
  rcases hf with ⟨rfl, hn⟩ | ⟨j, t, rfl, ht, rfl, rfl⟩
  · have e0' : Hid ((S.W b c).val o = 0) := by rw [hS.wout b c (by rw [h.keys]; exact hn)]; exact e0_val o
    clear hn I
    go_wp2_with fail
    go_ret
    exact ⟨ret_int e0'.out.symm, 0, rfl⟩
  · have hj := (List.getElem?_eq_some_iff.1 ht).1
    obtain ⟨g, cap, rfl, hc, _⟩ := h.row (by omega)
    obtain ⟨_, _, d2⟩ := hc j t ht
    obtain ⟨q, hR, _⟩ := h.wat j t ht
    have V := ref_value t.2.2 q _ (hS.wok t.1 t.2.1) o _ hR
    clear hR hc ht I h
    go_wp2_with (go_at_call 40; refine V.mono ?_; rintro e w' ⟨rfl, m, rfl⟩)
    go_ret
    exact ⟨rfl, _, rfl⟩

/-- the first so many bakers' -/
def preP (S : Sk) : Nat → Int
  | 0 => 0
  | k + 1 => preP S k + (S.P k).T
theorem preP_bd {S : Sk} (h : S.Ok) : ∀ k, 0 ≤ preP S k ∧ preP S k ≤ k * 1125899906842624
  | 0 => by simp [preP]
  | k + 1 => by
    have := preP_bd h k
    have := (h.pok k).t0
    have := (h.pok k).t1
    simp only [preP]
    omega
theorem preP_three (S : Sk) : preP S 3 = (S.P 0).T + (S.P 1).T + (S.P 2).T := by simp [preP]
/-- the first so many of what waits -/
def preW (S : Sk) (f : Int → Int → Int) (k : Nat) : Int := sumK (S.K.take k) f
theorem preW_zero (S : Sk) (f : Int → Int → Int) : preW S f 0 = 0 := rfl
theorem preW_succ (S : Sk) (f : Int → Int → Int) (k : Nat) (t : Int × Int) (h : S.K[k]? = some t) : preW S f (k + 1) = preW S f k + f t.1 t.2 := by
  unfold preW
  obtain ⟨hl, e⟩ := List.getElem?_eq_some_iff.1 h
  rw [List.take_succ_eq_append_getElem hl, sumK_append, e]
  show _ + (f t.1 t.2 + 0) = _
  omega
theorem preW_all (S : Sk) (f : Int → Int → Int) : preW S f S.K.length = sumK S.K f := by unfold preW; rw [List.take_length]
theorem preW_bd (S : Sk) (f : Int → Int → Int) (M : Int) (h0 : ∀ b c, 0 ≤ f b c) (h1 : ∀ b c, f b c ≤ M) (hM : 0 ≤ M) (k : Nat) : 0 ≤ preW S f k ∧ preW S f k ≤ S.K.length * M := by
  refine ⟨sumK_nonneg _ fun t _ => h0 _ _, Int.le_trans (sumK_le _ fun t _ => h1 _ _) ?_⟩
  refine Int.mul_le_mul_of_nonneg_right ?_ hM
  have := List.length_take_le k S.K
  have : (S.K.take k).length ≤ S.K.length := List.length_take_le' k S.K
  omega
theorem RSkAt.klen {tag : Nat → Nat} {w : World} {sb pb : Nat} {v : Value} {L : List Wt} {S : Sk} (h : RSkAt tag w sb pb v L S) : S.K.length = L.length := by rw [h.keys, List.length_map]
theorem RSkAt.key {tag : Nat → Nat} {w : World} {sb pb : Nat} {v : Value} {L : List Wt} {S : Sk} (h : RSkAt tag w sb pb v L S) {i : Nat} {t : Wt} (ht : L[i]? = some t) : S.K[i]? = some (t.1, t.2.1) := by
  rw [h.keys, List.getElem?_map, ht]; rfl

set_option maxRecDepth 100000 in
set_option maxHeartbeats 1000000 in
theorem rs_total (tag : Nat → Nat) (sb pb : Nat) (v : Value) (L : List Wt) (S : Sk) (hS : S.Ok) (hL : L.length ≤ 1000) (w : World) (h : RSkAt tag w sb pb v L S) :
    Calls Tryz.prog 10 #[.pointer (some ⟨sb, 0, none⟩)] w fun e w' => e = .returned (.int .i64 S.total) ∧ w' = w := by
  have c1 := h.c1
  obtain ⟨a, cap, rfl⟩ := h.shape
  go_enter Tryz.func10, Tryz.ntmps10
  go_wp2
  go_loopw [3, 4] (fun n i wr => ∃ k : Nat, k ≤ 3 ∧ n = .int .i64 (preP S k) ∧ i = .int .i64 k ∧ wr = w) (fun _ i _ => 3 - (intOf i).toNat)
  case atStart => exact ⟨0, Nat.zero_le _, rfl, rfl, rfl⟩
  case round =>
    obtain ⟨k, hk, rfl, rfl, rfl⟩ := hrel
    by_cases hlt : k < 3
    · have I := rs_staked tag sb pb _ L S hS k _ h
      have p0 := preP_bd hS k
      have t0 := (hS.pok k).t0
      have t1 := (hS.pok k).t1
      have E : Hid (preP S (k + 1) = preP S k + (S.P k).T) := rfl
      generalize (S.P k).T = T at *
      generalize preP S k = p at *
      have p1 : 0 ≤ p := p0.1
      have p2 : p ≤ 3 * 1125899906842624 := by omega
      clear p0
      go_wp2_with (go_at_call 14; refine I.mono ?_; rintro e w' ⟨rfl, rfl⟩)
      go_roundw
      case rel => exact ⟨k + 1, by omega, by rw [E.out], by go_num, trivial⟩
      case measure => simp [intOf]; omega
    · obtain rfl : k = 3 := by omega
      clear hlt
      go_wp2
      go_loopw [3, 5] (fun n i wz => ∃ k : Nat, k ≤ L.length ∧ n = .int .i64 (preP S 3 + preW S (fun b c => (S.W b c).T) k) ∧ i = .int .i64 k ∧ wz = wr) (fun _ i _ => L.length - (intOf i).toNat)
      case atStart => exact ⟨0, Nat.zero_le _, by rw [preW_zero, Int.add_zero], rfl, rfl⟩
      case round =>
        obtain ⟨k, hk, rfl, rfl, rfl⟩ := hrel
        by_cases hlt : k < L.length
        · obtain ⟨g, cap', e, hc, _⟩ := h.row (by omega)
          obtain ⟨rfl, rfl⟩ : a = some ⟨g, 0, none⟩ ∧ cap = cap' := by cases e; exact ⟨rfl, rfl⟩
          obtain ⟨t, ht⟩ : ∃ t, L[k]? = some t := ⟨L[k], List.getElem?_eq_getElem hlt⟩
          obtain ⟨_, _, d2⟩ := hc k t ht
          obtain ⟨q, hR, _⟩ := h.wat k t ht
          have d3 := hR.c0
          have p0 := preP_bd hS 3
          have q0 := preW_bd S (fun b c => (S.W b c).T) 1125899906842624 (fun b c => (hS.wok b c).t0) (fun b c => (hS.wok b c).t1) (by decide) k
          have t0 := (hS.wok t.1 t.2.1).t0
          have t1 := (hS.wok t.1 t.2.1).t1
          have E : Hid (preP S 3 + preW S (fun b c => (S.W b c).T) (k + 1) = preP S 3 + preW S (fun b c => (S.W b c).T) k + (S.W t.1 t.2.1).T) := by
            have : preW S (fun b c => (S.W b c).T) (k + 1) = preW S (fun b c => (S.W b c).T) k + (S.W t.1 t.2.1).T := preW_succ S (fun b c => (S.W b c).T) k _ (h.key ht)
            show _ = _
            rw [this]; omega
          rw [h.klen] at q0
          obtain ⟨p1, p2⟩ : 0 ≤ preP S 3 + preW S (fun b c => (S.W b c).T) k ∧ preP S 3 + preW S (fun b c => (S.W b c).T) k ≤ 1003 * 1125899906842624 := by
            have : (L.length : Int) * 1125899906842624 ≤ 1000 * 1125899906842624 := Int.mul_le_mul_of_nonneg_right (by omega) (by decide)
            omega
          clear p0 q0 hR hc ht h e
          generalize (S.W t.1 t.2.1).T = T at *
          generalize preP S 3 + preW S (fun b c => (S.W b c).T) k = p at *
          go_wp2
          go_roundw
          case rel => exact ⟨k + 1, by omega, by rw [E.out], by go_num, trivial⟩
          case measure => simp [intOf]; omega
        · obtain rfl : k = L.length := by omega
          have E : Hid (preP S 3 + preW S (fun b c => (S.W b c).T) L.length = S.total) := by
            show _ = _
            unfold Sk.total
            rw [preP_three, ← h.klen, preW_all]
          clear h
          go_wp2
          go_ret
          exact ⟨ret_int E.out, rfl⟩
end Go.Proofs.YtlhffdmhbplpjabGreatDoor

namespace Go.Proofs.YtlhffdmhbplpjabGreatDoor
open Go.RowKit

/-- so many numbers laid one behind another -/
def Ints (w : World) (b off n : Nat) (W : Nat → Int) : Prop := ∀ i, i < n → w.cell? ⟨b, off + i, none⟩ = some (.int .i64 (W i))
theorem Ints.kept {w w' : World} {b off n : Nat} {W : Nat → Int} {X : List Nat} (h : Ints w b off n W) (hK : Kept X w w') (hb : b ∉ X) : Ints w' b off n W := fun i hi => hK.old (h i hi) hb
theorem Ints.below {w w' : World} {b off n B : Nat} {W : Nat → Int} (h : Ints w b off n W) (hB : Below B w w') (hb : b < B) : Ints w' b off n W := fun i hi => by rw [hB.cell (p := ⟨b, off + i, none⟩) hb]; exact h i hi
end Go.Proofs.YtlhffdmhbplpjabGreatDoor
