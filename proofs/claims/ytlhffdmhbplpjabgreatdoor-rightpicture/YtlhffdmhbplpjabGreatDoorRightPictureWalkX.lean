/-
  bakehouseref2.PictureOf by its contract: the weights of the document's stakes.
  The law RightPicture, walked: for every slice of acts it returns true.
-/
import Derived.Test.YtlhffdmhbplpjabGreatDoorRefStkTells
import Derived.Test.YtlhffdmhbplpjabGreatDoorProgPictX
import Derived.Test.YtlhffdmhbplpjabGreatDoorIntsAtX
import Derived.Laws.AppendOwn
import Derived.Deep.AppendLies
import Derived.Test.YtlhffdmhbplpjabGreatDoorStkAct
import Derived.Test.YtlhffdmhbplpjabGreatDoorKeptX
namespace Go.Proofs.YtlhffdmhbplpjabGreatDoor
open Go.RowKit

def picRow (S : Sk) : Nat → List Value
  | 0 => []
  | k + 1 => picRow S k ++ [.int .i64 (S.pic k)]
theorem picRow_len (S : Sk) : ∀ k, (picRow S k).length = k
  | 0 => rfl
  | k + 1 => by simp [picRow, picRow_len S k]
theorem picRow_at (S : Sk) (k i : Nat) (h : i < k) : (picRow S k)[i]? = some (.int .i64 (S.pic i)) := by
  induction k with
  | zero => omega
  | succ k ih =>
    rcases Nat.lt_or_eq_of_le (Nat.le_of_lt_succ h) with l | l
    · rw [picRow, List.getElem?_append_left (by rw [picRow_len]; exact l)]; exact ih l
    · subst l; rw [picRow, List.getElem?_append_right (by rw [picRow_len]; omega), picRow_len]; simp
theorem row_shape3 {w : World} {B size n : Nat} {e : TypeId} {v : Value} {xs : List Value} (h : w.ownsRow B e size v n xs) : ∃ a cap, v = .slice a n cap := by
  rcases h.2 with ⟨e, h0⟩ | ⟨g, cap, cur, e, _⟩
  · exact ⟨none, 0, by rw [e, h0]⟩
  · exact ⟨_, _, e⟩
theorem grown_pic {w w' : World} {v : Value} {B : Nat} (h : w.grownBy w' v.ownBlock) (hv : ∀ q, v.ownBlock = some q → B ≤ q) (hB : B ≤ w.heap.size) : Below B w w' :=
  ⟨h.os, h.tape, h.output, h.size, fun k hk => h.block k (by omega) fun e => by have := hv k e.symm; omega⟩
theorem Tryz.infoIntR : (Tryz.prog.info? 3).map (fun i => (i.zero, i.size, i.bytes)) = some (some (.int .i64 0), 1, 8) := by kernel_rfl
set_option maxRecDepth 100000 in
set_option maxHeartbeats 2000000 in
theorem rk_picture (G : Nat → Prop) (rb : Nat) (S : Sk) (hS : S.Ok) (w : World) (h : RSk G w rb S) :
    Calls Tryz.prog 22 #[.pointer (some ⟨rb, 0, none⟩)] w fun e w' => ∃ m cap, e = .returned (.slice (some ⟨m, 0, none⟩) 3 cap) ∧ (w.heap.size ≤ m ∧ m < w'.heap.size) ∧ Ints w' m 0 3 S.pic ∧ Below w.heap.size w w' := by
  obtain ⟨tag, pb, v, L, hG, h⟩ := h
  go_enter Tryz.func22, Tryz.ntmps22
  go_wp2_with fail
  go_loopw [3, 4] (fun r i wr => ∃ k : Nat, k ≤ 3 ∧ i = .int .i64 k ∧ wr.ownsRow w.heap.size 3 1 r k (picRow S k) ∧ Below w.heap.size w wr) (fun _ i _ => 3 - (intOf i).toNat)
  case atStart => exact ⟨0, Nat.zero_le _, rfl, World.ownsRow_nil _ _ _ _, Below.refl _ _⟩
  case round =>
    obtain ⟨k, hk, rfl, own, hB⟩ := hrel
    by_cases hlt : k < 3
    · have h5 := h.keptP (KeptP.of_below (F := fun _ => False) hB) (fun _ g => g.elim)
      have C := rs_staked tag rb pb v L S hS k wr h5
      have eW : S.pic k = wtOf (S.P k).T := rfl
      unfold wtOf at eW
      obtain ⟨i0, hi, hz0, hz1, hz2⟩ := info_parts Tryz.infoIntR
      have hc : ((S.P k).T < 100 ∧ S.pic k = 0) ∨ (100 ≤ (S.P k).T ∧ 1073741824 < (S.P k).T ∧ S.pic k = 1073741824) ∨ (100 ≤ (S.P k).T ∧ (S.P k).T ≤ 1073741824 ∧ S.pic k = (S.P k).T) := by
        rw [eW]
        by_cases g1 : (S.P k).T < 100
        · exact .inl ⟨g1, if_pos g1⟩
        · rw [if_neg g1]
          by_cases g2 : 1073741824 < (S.P k).T
          · exact .inr (.inl ⟨by omega, g2, if_pos g2⟩)
          · exact .inr (.inr ⟨by omega, by omega, if_neg g2⟩)
      have eR : picRow S (k + 1) = picRow S k ++ [.int .i64 (S.pic k)] := rfl
      have szB := hB.size
      obtain ⟨aR, cR, rfl⟩ := row_shape3 own
      have l63 : k + 1 ≤ maxLen := by simp only [maxLen]; omega
      have l64 : (k + 1) * 8 ≤ 140737488355328 := by omega
      clear h h5 eW
      rcases hc with ⟨g1, e⟩ | ⟨g0, g1, e⟩ | ⟨g0, g1, e⟩ <;> rw [e] at eR <;> have ER := hide eR <;> clear e eR
      · have N6 : ∀ j u, [Value.int .i64 0][j]? = some u → (wr.alloc (.cells #[.int .i64 0] 3)).cell? ((⟨wr.heap.size, 0, none⟩ : Addr).add j) = some u := World.news_of_block (heap_alloc_new wr _)
        have ow : (wr.alloc (.cells #[.int .i64 0] 3)).ownsRow w.heap.size 3 1 (.slice aR k cR) k (picRow S k) := own.alloc _
        have one : ∀ u ∈ [Value.int .i64 0], u.oneCell' = true := by simp [Value.oneCell']
        have lB : w.heap.size ≤ (wr.alloc (.cells #[.int .i64 0] 3)).heap.size := by simp; omega
        go_wp2_with fail
        refine C.mono ?_
        rintro e wr ⟨rfl, rfl⟩
        go_wp2_with (at_builtin; refine wpList_append_lies _ rfl (.tmp 17) (.tmp 19) 38 rfl w.heap.size 3 i0 (.int .i64 0) 1 8 Tryz.underlying38 hi hz0 hz1 hz2 rfl (by decide) _ k (picRow S k) rfl ow ⟨wr.heap.size, 0, none⟩ 1 1 [.int .i64 0] rfl rfl N6 one (by decide) l63 l64 lB _ rfl ?_; intro gN capN w6 hown hgrow hat hltN)
        have hB6 : Below w.heap.size w w6 := (hB.alloc szB _).trans (grown_pic hgrow (fun q e => (own.lt q e).1) lB)
        rw [← ER.out] at hown
        clear own hgrow C ow N6
        go_roundw
        case rel => exact ⟨k + 1, by omega, by go_num, hown, hB6⟩
        case measure => simp [intOf]; omega
      · have N6 : ∀ j u, [Value.int .i64 1073741824][j]? = some u → (wr.alloc (.cells #[.int .i64 1073741824] 3)).cell? ((⟨wr.heap.size, 0, none⟩ : Addr).add j) = some u := World.news_of_block (heap_alloc_new wr _)
        have ow : (wr.alloc (.cells #[.int .i64 1073741824] 3)).ownsRow w.heap.size 3 1 (.slice aR k cR) k (picRow S k) := own.alloc _
        have one : ∀ u ∈ [Value.int .i64 1073741824], u.oneCell' = true := by simp [Value.oneCell']
        have lB : w.heap.size ≤ (wr.alloc (.cells #[.int .i64 1073741824] 3)).heap.size := by simp; omega
        go_wp2_with fail
        refine C.mono ?_
        rintro e wr ⟨rfl, rfl⟩
        go_wp2_with (at_builtin; refine wpList_append_lies _ rfl (.tmp 17) (.tmp 19) 38 rfl w.heap.size 3 i0 (.int .i64 0) 1 8 Tryz.underlying38 hi hz0 hz1 hz2 rfl (by decide) _ k (picRow S k) rfl ow ⟨wr.heap.size, 0, none⟩ 1 1 [.int .i64 1073741824] rfl rfl N6 one (by decide) l63 l64 lB _ rfl ?_; intro gN capN w6 hown hgrow hat hltN)
        have hB6 : Below w.heap.size w w6 := (hB.alloc szB _).trans (grown_pic hgrow (fun q e => (own.lt q e).1) lB)
        rw [← ER.out] at hown
        clear own hgrow C ow N6
        go_roundw
        case rel => exact ⟨k + 1, by omega, by go_num, hown, hB6⟩
        case measure => simp [intOf]; omega
      · have N6 : ∀ j u, [Value.int .i64 (S.P k).T][j]? = some u → (wr.alloc (.cells #[.int .i64 (S.P k).T] 3)).cell? ((⟨wr.heap.size, 0, none⟩ : Addr).add j) = some u := World.news_of_block (heap_alloc_new wr _)
        have ow : (wr.alloc (.cells #[.int .i64 (S.P k).T] 3)).ownsRow w.heap.size 3 1 (.slice aR k cR) k (picRow S k) := own.alloc _
        have one : ∀ u ∈ [Value.int .i64 (S.P k).T], u.oneCell' = true := by simp [Value.oneCell']
        have lB : w.heap.size ≤ (wr.alloc (.cells #[.int .i64 (S.P k).T] 3)).heap.size := by simp; omega
        go_wp2_with fail
        refine C.mono ?_
        rintro e wr ⟨rfl, rfl⟩
        go_wp2_with (at_builtin; refine wpList_append_lies _ rfl (.tmp 17) (.tmp 19) 38 rfl w.heap.size 3 i0 (.int .i64 0) 1 8 Tryz.underlying38 hi hz0 hz1 hz2 rfl (by decide) _ k (picRow S k) rfl ow ⟨wr.heap.size, 0, none⟩ 1 1 [.int .i64 (S.P k).T] rfl rfl N6 one (by decide) l63 l64 lB _ rfl ?_; intro gN capN w6 hown hgrow hat hltN)
        have hB6 : Below w.heap.size w w6 := (hB.alloc szB _).trans (grown_pic hgrow (fun q e => (own.lt q e).1) lB)
        rw [← ER.out] at hown
        clear own hgrow C ow N6
        go_roundw
        case rel => exact ⟨k + 1, by omega, by go_num, hown, hB6⟩
        case measure => simp [intOf]; omega
    · obtain rfl : k = 3 := by omega
      rcases own.2 with ⟨_, h0⟩ | ⟨m, cap', cur, e, hb, _, hcap, hmax, _⟩
      · omega
      · cases e
        have lt := (own.lt m rfl).2
        have I : Ints wr m 0 3 S.pic := fun i hi => by
          rw [Nat.zero_add]
          exact (own.cellAt i (by omega)).trans (picRow_at S 3 i hi)
        clear own
        go_wp2_with fail
        go_ret
        exact ⟨m, _, rfl, ⟨hb, lt⟩, I, hB⟩
end Go.Proofs.YtlhffdmhbplpjabGreatDoor

namespace Go.Proofs.YtlhffdmhbplpjabGreatDoor
open Go.RowKit

set_option maxRecDepth 100000 in
set_option maxHeartbeats 4000000 in
theorem rightPicture_walk (b off len cap : Nat) (A : Nat → Addr) (w : World) (hL : Laid w A) (a0 : Option Addr) (hb : len ≠ 0 → a0 = some ⟨b, off, none⟩ ∧ b < w.heap.size) (h60 : len ≤ 60) (hA : Acts2 w b off len) :
    Calls Tryz.prog 4 #[.slice a0 len cap] w fun e w' => e = .returned (.bool true) ∧ Below w.heap.size w w' := by
  go_enter Tryz.func4, Tryz.ntmps4
  go_wp2_with fail
  refine (entitled_of w).mono ?_
  rintro e w1 ⟨rfl, hB1⟩
  go_wp2_with fail
  refine (ps_new _).mono ?_
  rintro e w2 ⟨sb, F2, rfl, hP2, hf2, hB2⟩
  have M2 : Sides w.heap.size w w2 F2 (fun _ => False) := ⟨fun _ _ g => g, fun k hk => Nat.le_trans hB1.size (hf2 k hk), fun _ g => g.elim, hB1.trans (hB2.mono hB1.size), Nat.le_trans hB1.size hB2.size⟩
  clear hB1 hB2 hf2
  go_wp2_with fail
  refine (rs_new _).mono ?_
  rintro e w3 ⟨rb, G3, rfl, hR3, hg3, _, hB3⟩
  have hP3 := hP2.nextB hB3
  have hW3 : Sides w.heap.size w w3 F2 G3 := ⟨fun k hk hg => by have := hP2.lt k hk; have := hg3 k hg; omega, M2.f, fun k hk => Nat.le_trans M2.size (hg3 k hk), M2.below.trans (hB3.mono M2.size), Nat.le_trans M2.size hB3.size⟩
  clear hB3 hP2 M2 hg3
  go_wp2_with fail
  go_loopw [6] (fun i w' => ∃ k : Nat, k ≤ len ∧ i = .int .i64 k ∧ Both w.heap.size w w' sb rb (4 * k) k) (fun i _ => len - (intOf i).toNat)
  case atStart => exact ⟨0, Nat.zero_le _, rfl, F2, G3, _, Sk.none_ok, Nat.le_refl _, hP3, hR3, hW3⟩
  case round =>
    obtain ⟨k, hk, rfl, F, G, S, hS, hl, hP, hR, hW⟩ := hrel
    clear hP3 hR3 hW3
    by_cases hlt : k < len
    · obtain ⟨ea, zb⟩ := hb (by omega)
      subst ea
      obtain ⟨K, O, C, N, Y, a⟩ := hA.below hW.below zb k hlt
      have a0 := a.c0
      have a1 := a.c1
      have a2 := a.c2
      have a3 := a.c3
      have a4 := a.c4
      clear hb
      go_wp2_with fail
      refine (act_of w F G sb rb S hS (4 * k) (by omega) (by omega) K O C N Y a.wO a.wY A wr hL hP hR hW).mono ?_
      rintro e w4 ⟨rfl, F4, G4, S4, hS4, hl4, hP4, hR4, hW4⟩
      have hl5 : S4.K.length ≤ k + 1 := by omega
      clear hP hR hW hS hl hl4 a0 a1 a2 a3 a4 a
      go_wp2_with fail
      refine (pr_picture F4 sb S4 hS4 _ w4 hP4).mono ?_
      rintro e w5 ⟨m1, c1, rfl, z1, hI1, hB5⟩
      have hP5 := hP4.nextB hB5
      have hR5 := hR4.nextB hB5
      have hW5 := hW4.nextB hB5
      clear hP4 hR4 hW4 hB5
      go_wp2_with fail
      refine (rk_picture G4 rb S4 hS4 w5 hR5).mono ?_
      rintro e w6 ⟨m2, c2, rfl, z2, hI2, hB6⟩
      have hP6 := hP5.nextB hB6
      have hR6 := hR5.nextB hB6
      have hW6 := hW5.nextB hB6
      have hJ : Ints w6 m1 0 3 S4.pic := fun i hi => by rw [hB6.cell (p := ⟨m1, 0 + i, none⟩) z1.2]; exact hI1 i hi
      clear hP5 hR5 hW5 hB6 hI1
      go_wp2_with fail
      refine (same_three m1 m2 c1 c2 S4.pic w6 hJ hI2).mono ?_
      rintro e w7 ⟨rfl, m, hw⟩
      have hP7 := (by rw [hw]; exact hP6.drewN m : PSk F4 w7 sb S4 (4 * k + 4))
      have hR7 := (by rw [hw]; exact hR6.drewN m : RSk G4 w7 rb S4)
      have hW7 := (by rw [hw]; exact hW6.drewN m : Sides w.heap.size w w7 F4 G4)
      clear hP6 hR6 hW6 hw hJ hI2
      go_wp2_with fail
      go_roundw
      case rel => exact ⟨k + 1, by omega, by go_num, F4, G4, S4, hS4, hl5, by rw [Nat.mul_add]; exact hP7, hR7, hW7⟩
      case measure => simp [intOf]; omega
    · obtain rfl : k = len := by omega
      have hB := hW.below
      clear hP hR hW
      go_wp2_with fail
      go_ret
      exact ⟨rfl, hB⟩
set_option maxRecDepth 100000 in
theorem rightPicture_many (a : Option Addr) (len cap : Nat) (h : 60 < len) (hm : len ≤ 9223372036854775807) (w : World) :
    Calls Tryz.prog 4 #[.slice a len cap] w fun e w' => e = .returned (.bool true) ∧ Below w.heap.size w w' := by
  go_enter Tryz.func4, Tryz.ntmps4
  go_wp2_with fail
  refine (entitled_of w).mono ?_
  rintro e w1 ⟨rfl, hB1⟩
  go_wp2
  go_ret
  exact ⟨rfl, hB1⟩
theorem rightPicture_any (a : Option Addr) (len cap : Nat) (A : Nat → Addr) (w : World) (hL : Laid w A) (h : IsActs2 w a len cap) :
    Calls Tryz.prog 4 #[.slice a len cap] w fun e w' => e = .returned (.bool true) ∧ Below w.heap.size w w' := by
  rcases h with rfl | ⟨b, off, rfl, hb, hl, hm, hA⟩
  · exact rightPicture_walk 0 0 0 cap A w hL a (fun g => absurd rfl g) (by omega) (fun i hi => absurd hi (Nat.not_lt_zero _))
  · by_cases h : len ≤ 60
    · exact rightPicture_walk b off len cap A w hL _ (fun _ => ⟨rfl, hb⟩) h hA
    · exact rightPicture_many _ len cap (by omega) (by omega) w
end Go.Proofs.YtlhffdmhbplpjabGreatDoor
