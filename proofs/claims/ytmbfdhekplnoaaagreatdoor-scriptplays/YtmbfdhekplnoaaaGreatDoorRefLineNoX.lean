/-
  A command's line (bakehouselaw3.lineOf), by its contract.
  What is no command's line (bakehouselaw3.lineOf), by its contract.
-/
import Derived.Test.YtmbfdhekplnoaaaGreatDoorLineMathX
namespace Go.Proofs.YtmbfdhekplnoaaaGreatDoor
open Go.RowKit

set_option maxRecDepth 100000 in
set_option maxHeartbeats 2000000 in
theorem lineOf_yes (wd : ByteArray) (a : Option Addr) (n cap : Nat) (X : Nat → Int) (f : List UInt8) (hf : formL wd.toList = some f) (hn : n = f.length) (n5 : n ≤ 5) (hX : ∀ i, i < n → 0 ≤ X i ∧ X i ≤ mostOf f i) (hd : wd.toList.length ≤ 60) (w : World) (R : RowV w (.slice a n cap) n X) :
    Calls Tryz.prog 12 #[.agg #[.string wd, .slice a n cap]] w fun e w' => e = .returned (.tuple #[.string (bs (cmdText wd.toList (natsOf X n))), .bool true]) ∧ Below w.heap.size w w' := by
  have hB4 : Below w.heap.size w (w.alloc (.cells #[.string wd, .slice a n cap] 37)) := (Below.refl _ _).alloc (Nat.le_refl _) _
  have s0 : (w.alloc (.cells #[.string wd, .slice a n cap] 37)).cell? ⟨w.heap.size, 0, none⟩ = some (.string wd) := by simp
  have s1 : (w.alloc (.cells #[.string wd, .slice a n cap] 37)).cell? ⟨w.heap.size, 1, none⟩ = some (.slice a n cap) := by simp
  have R4 := R.below hB4
  have FO := fun x => formOf_of wd x
  rw [hf] at FO
  have fz : (bs f).size = n := by rw [bs_size]; exact hn.symm
  have nz : ((n : Int) != (n : Int)) = false := by simp
  have ln : ∀ k, k ≤ n → (cmdText wd.toList (natsOf X k)).length ≤ 60 + 20 * k := fun k hk => by
    have := cmdText_len wd.toList X n (fun i hi => by have := hX i hi; have := mostOf_top f i; omega) k hk
    omega
  have b4 := hide hB4
  have nl := hB4.size
  replace hn := hide hn
  have ew : bs (cmdText wd.toList (natsOf X 0)) = wd := by rw [show cmdText wd.toList (natsOf X 0) = wd.toList by simp [cmdText, natsOf, numText], bs_toList]
  clear R hB4 hf
  go_enter Tryz.func12, Tryz.ntmps12
  go_wp2_with fail
  generalize hna : w.heap.size = na at *
  replace hna := hide hna
  generalize w.alloc (.cells #[.string wd, .slice a n cap] 37) = w4 at *
  refine (FO w4).mono ?_
  rintro e w5 ⟨rfl, hw⟩
  obtain rfl := hw.symm
  clear FO
  unfold formV
  go_wp2_with fail
  go_loopw [6, 7] (fun o i wr => ∃ k : Nat, k ≤ n ∧ i = .int .i64 k ∧ o = .string (bs (cmdText wd.toList (natsOf X k))) ∧ Below w4.heap.size w4 wr) (fun _ i _ => n - (intOf i).toNat)
  case atStart => exact ⟨0, Nat.zero_le _, rfl, by rw [ew], Below.refl _ _⟩
  case round =>
    obtain ⟨k, hk, rfl, rfl, hB⟩ := hrel
    clear nz fz ew
    have q1 : wr.cell? ⟨na, 1, none⟩ = some (.slice a n cap) := line_old hB s1
    obtain ⟨a', cap', e, g⟩ := R4
    cases e
    by_cases hlt : k < n
    · obtain ⟨b1, o1, rfl, _, c'⟩ := g k hlt
      have hk := hX k hlt
      have mt := mostOf_top f k
      obtain ⟨m, hm⟩ : ∃ m : Nat, X k = m := ⟨(X k).toNat, by omega⟩
      have q2 : wr.cell? ⟨b1, o1 + k, none⟩ = some (.int .i64 ((m : Nat) : Int)) := by rw [← hm]; exact line_old hB c'
      have m9 : m ≤ 9999999 := by omega
      have mo : m ≤ mostOf f k := by omega
      have nx : ∀ s : List UInt8, s = cmdText wd.toList (natsOf X k) → cmdText wd.toList (natsOf X (k + 1)) = s ++ 32 :: dec m := fun s e => by rw [cmdText_next, hm, e]; rfl
      have l1 := ln k (by omega)
      generalize hT : cmdText wd.toList (natsOf X k) = T at *
      replace nx := hide (nx T rfl)
      have kf : k < f.length := by have := hn.out; omega
      have ix := fun x => index_form f k kf x
      have z1 : ¬ 9223372036854775807 < (bs T).size + (bs [32]).size := by rw [bs_size, bs_size]; simp only [List.length_cons, List.length_nil]; omega
      have z2 : ¬ 9223372036854775807 < (bs T ++ bs [32]).size + (bs (dec m)).size := by rw [bs_append, bs_size, bs_size]; have := dec_len19 (n := m) (by omega); simp only [List.length_append, List.length_cons, List.length_nil]; omega
      have ad : ∀ x : World, (Op.stringOp .add (bs T) { data := #[32] }).run Tryz.prog x = .ok (.string (bs T ++ bs [32])) x := fun x => run_string_add_sum x _ (bs [32]) (by omega)
      have ad2 : ∀ x : World, (Op.stringOp .add (bs T ++ bs [32]) (bs (dec m))).run Tryz.prog x = .ok (.string (bs (T ++ 32 :: dec m))) x := fun x => by rw [run_string_add_sum x _ _ (by omega), line_bs]
      have HB := hide hB
      clear g c' hX hT hm hk ln hB z1 z2 l1 kf
      by_cases hd : f.getD k 0 = 100
      · have mo9 : m ≤ 9 := by rw [mostOf, if_pos hd] at mo; exact mo
        rw [hd] at ix
        go_wp2_with fail
        refine (decimal_of m (by omega) _).mono ?_
        rintro e w6 ⟨rfl, hB6⟩
        have hB6 := hide hB6
        go_wp2_with fail
        go_roundw
        case rel => exact ⟨k + 1, by omega, by go_num, by rw [nx.out], HB.out.trans (hB6.out.mono HB.out.size)⟩
        case measure => simp [intOf]; omega
      · have y1 : f.getD k 0 ≠ 100 := hd
        obtain ⟨y, hy⟩ : ∃ y : Nat, (f.getD k 0).toNat = y := ⟨_, rfl⟩
        have y2 : (y : Int) ≠ 100 := fun e => y1 (UInt8.toNat_inj.mp (by rw [hy]; show y = 100; omega))
        rw [hy] at ix
        clear hd y1 hy mo
        go_wp2_with fail
        refine (decimal_of m (by omega) _).mono ?_
        rintro e w6 ⟨rfl, hB6⟩
        have hB6 := hide hB6
        go_wp2_with fail
        go_roundw
        case rel => exact ⟨k + 1, by omega, by go_num, by rw [nx.out], HB.out.trans (hB6.out.mono HB.out.size)⟩
        case measure => simp [intOf]; omega
    · obtain rfl : k = n := by omega
      have HB := hide hB
      clear hB g
      go_wp2_with fail
      go_ret2
      exact ⟨rfl, by rw [hna.out]; exact b4.out.trans (HB.out.mono nl)⟩
end Go.Proofs.YtmbfdhekplnoaaaGreatDoor

namespace Go.Proofs.YtmbfdhekplnoaaaGreatDoor
open Go.RowKit

def noLine : Value := .tuple #[.string { data := #[] }, .bool false]
set_option maxRecDepth 100000 in
theorem lineOf_word (wd : ByteArray) (a : Option Addr) (n cap : Nat) (hf : formL wd.toList = none) (w : World) :
    Calls Tryz.prog 12 #[.agg #[.string wd, .slice a n cap]] w fun e w' => e = .returned noLine ∧ Below w.heap.size w w' := by
  have hB4 : Below w.heap.size w (w.alloc (.cells #[.string wd, .slice a n cap] 37)) := (Below.refl _ _).alloc (Nat.le_refl _) _
  have s0 : (w.alloc (.cells #[.string wd, .slice a n cap] 37)).cell? ⟨w.heap.size, 0, none⟩ = some (.string wd) := by simp
  have s1 : (w.alloc (.cells #[.string wd, .slice a n cap] 37)).cell? ⟨w.heap.size, 1, none⟩ = some (.slice a n cap) := by simp
  have FO := fun x => formOf_of wd x
  rw [hf] at FO
  have b4 := hide hB4
  clear hB4 hf
  go_enter Tryz.func12, Tryz.ntmps12
  go_wp2_with fail
  generalize hna : w.heap.size = na at *
  replace hna := hide hna
  generalize w.alloc (.cells #[.string wd, .slice a n cap] 37) = w4 at *
  refine (FO w4).mono ?_
  rintro e w5 ⟨rfl, hw⟩
  obtain rfl := hw.symm
  clear FO
  unfold formV
  go_wp2_with fail
  go_ret2
  exact ⟨rfl, by rw [hna.out]; exact b4.out⟩
set_option maxRecDepth 100000 in
theorem lineOf_len (wd : ByteArray) (a : Option Addr) (n cap : Nat) (f : List UInt8) (hf : formL wd.toList = some f) (hn : n ≠ f.length) (w : World) :
    Calls Tryz.prog 12 #[.agg #[.string wd, .slice a n cap]] w fun e w' => e = .returned noLine ∧ Below w.heap.size w w' := by
  have hB4 : Below w.heap.size w (w.alloc (.cells #[.string wd, .slice a n cap] 37)) := (Below.refl _ _).alloc (Nat.le_refl _) _
  have s0 : (w.alloc (.cells #[.string wd, .slice a n cap] 37)).cell? ⟨w.heap.size, 0, none⟩ = some (.string wd) := by simp
  have s1 : (w.alloc (.cells #[.string wd, .slice a n cap] 37)).cell? ⟨w.heap.size, 1, none⟩ = some (.slice a n cap) := by simp
  have FO := fun x => formOf_of wd x
  rw [hf] at FO
  obtain ⟨z, hz⟩ : ∃ z, (bs f).size = z := ⟨_, rfl⟩
  have nz : ((n : Int) != (z : Int)) = true := by
    have : n ≠ z := by rw [← hz, bs_size]; exact hn
    simp only [bne_iff_ne, ne_eq]; omega
  have b4 := hide hB4
  clear hB4 hf hn
  go_enter Tryz.func12, Tryz.ntmps12
  go_wp2_with fail
  generalize hna : w.heap.size = na at *
  replace hna := hide hna
  generalize w.alloc (.cells #[.string wd, .slice a n cap] 37) = w4 at *
  refine (FO w4).mono ?_
  rintro e w5 ⟨rfl, hw⟩
  obtain rfl := hw.symm
  clear FO
  unfold formV
  go_wp2_with fail
  go_ret2
  exact ⟨rfl, by rw [hna.out]; exact b4.out⟩
set_option maxRecDepth 100000 in
set_option maxHeartbeats 2000000 in
theorem lineOf_bad (wd : ByteArray) (a : Option Addr) (n cap : Nat) (X : Nat → Int) (f : List UInt8) (hf : formL wd.toList = some f) (hn : n = f.length) (n5 : n ≤ 5) (hX : ¬ ∀ i, i < n → 0 ≤ X i ∧ X i ≤ mostOf f i) (hd : wd.toList.length ≤ 60) (w : World) (R : RowV w (.slice a n cap) n X) :
    Calls Tryz.prog 12 #[.agg #[.string wd, .slice a n cap]] w fun e w' => e = .returned noLine ∧ Below w.heap.size w w' := by
  have hB4 : Below w.heap.size w (w.alloc (.cells #[.string wd, .slice a n cap] 37)) := (Below.refl _ _).alloc (Nat.le_refl _) _
  have s0 : (w.alloc (.cells #[.string wd, .slice a n cap] 37)).cell? ⟨w.heap.size, 0, none⟩ = some (.string wd) := by simp
  have s1 : (w.alloc (.cells #[.string wd, .slice a n cap] 37)).cell? ⟨w.heap.size, 1, none⟩ = some (.slice a n cap) := by simp
  have R4 := R.below hB4
  have FO := fun x => formOf_of wd x
  rw [hf] at FO
  have fz : (bs f).size = n := by rw [bs_size]; exact hn.symm
  have nz : ((n : Int) != (n : Int)) = false := by simp
  have ln : ∀ k, (∀ i, i < k → 0 ≤ X i ∧ X i ≤ mostOf f i) → (cmdText wd.toList (natsOf X k)).length ≤ 60 + 20 * k := fun k hk => by
    have := cmdText_len wd.toList X k (fun i hi => by have := hk i hi; have := mostOf_top f i; omega) k (Nat.le_refl _)
    omega
  have b4 := hide hB4
  have nl := hB4.size
  replace hn := hide hn
  have ew : bs (cmdText wd.toList (natsOf X 0)) = wd := by rw [show cmdText wd.toList (natsOf X 0) = wd.toList by simp [cmdText, natsOf, numText], bs_toList]
  clear R hB4 hf
  go_enter Tryz.func12, Tryz.ntmps12
  go_wp2_with fail
  generalize hna : w.heap.size = na at *
  replace hna := hide hna
  generalize w.alloc (.cells #[.string wd, .slice a n cap] 37) = w4 at *
  refine (FO w4).mono ?_
  rintro e w5 ⟨rfl, hw⟩
  obtain rfl := hw.symm
  clear FO
  unfold formV
  go_wp2_with fail
  go_loopw [6, 7] (fun o i wr => ∃ k : Nat, k ≤ n ∧ i = .int .i64 k ∧ o = .string (bs (cmdText wd.toList (natsOf X k))) ∧ Below w4.heap.size w4 wr ∧ Hid (∀ j, j < k → 0 ≤ X j ∧ X j ≤ mostOf f j)) (fun _ i _ => n - (intOf i).toNat)
  case atStart => exact ⟨0, Nat.zero_le _, rfl, by rw [ew], Below.refl _ _, hide fun j hj => by omega⟩
  case round =>
    obtain ⟨k, hk, rfl, rfl, hB, hG⟩ := hrel
    clear nz fz ew
    have nX := hide hX
    clear hX
    have q1 : wr.cell? ⟨na, 1, none⟩ = some (.slice a n cap) := line_old hB s1
    obtain ⟨a', cap', e, g⟩ := R4
    cases e
    by_cases hlt : k < n
    · obtain ⟨b1, o1, rfl, _, c'⟩ := g k hlt
      by_cases hgo : 0 ≤ X k ∧ X k ≤ mostOf f k
      · have hG' : Hid (∀ j, j < k + 1 → 0 ≤ X j ∧ X j ≤ mostOf f j) := hide fun j hj => by
          rcases Nat.lt_or_eq_of_le (Nat.le_of_lt_succ hj) with l | l
          · exact hG.out j l
          · rw [l]; exact hgo
        have hk := hgo
        have mt := mostOf_top f k
        obtain ⟨m, hm⟩ : ∃ m : Nat, X k = m := ⟨(X k).toNat, by omega⟩
        have q2 : wr.cell? ⟨b1, o1 + k, none⟩ = some (.int .i64 ((m : Nat) : Int)) := by rw [← hm]; exact line_old hB c'
        have m9 : m ≤ 9999999 := by omega
        have mo : m ≤ mostOf f k := by omega
        have nx : ∀ s : List UInt8, s = cmdText wd.toList (natsOf X k) → cmdText wd.toList (natsOf X (k + 1)) = s ++ 32 :: dec m := fun s e => by rw [cmdText_next, hm, e]; rfl
        have l1 := ln k hG.out
        generalize hT : cmdText wd.toList (natsOf X k) = T at *
        replace nx := hide (nx T rfl)
        have kf : k < f.length := by have := hn.out; omega
        have ix := fun x => index_form f k kf x
        have z1 : ¬ 9223372036854775807 < (bs T).size + (bs [32]).size := by rw [bs_size, bs_size]; simp only [List.length_cons, List.length_nil]; omega
        have z2 : ¬ 9223372036854775807 < (bs T ++ bs [32]).size + (bs (dec m)).size := by rw [bs_append, bs_size, bs_size]; have := dec_len19 (n := m) (by omega); simp only [List.length_append, List.length_cons, List.length_nil]; omega
        have ad : ∀ x : World, (Op.stringOp .add (bs T) { data := #[32] }).run Tryz.prog x = .ok (.string (bs T ++ bs [32])) x := fun x => run_string_add_sum x _ (bs [32]) (by omega)
        have ad2 : ∀ x : World, (Op.stringOp .add (bs T ++ bs [32]) (bs (dec m))).run Tryz.prog x = .ok (.string (bs (T ++ 32 :: dec m))) x := fun x => by rw [run_string_add_sum x _ _ (by omega), line_bs]
        have HB := hide hB
        clear hgo g c' hT hm hk ln hB z1 z2 l1 kf
        by_cases hd : f.getD k 0 = 100
        · have mo9 : m ≤ 9 := by rw [mostOf, if_pos hd] at mo; exact mo
          rw [hd] at ix
          go_wp2_with fail
          refine (decimal_of m (by omega) _).mono ?_
          rintro e w6 ⟨rfl, hB6⟩
          have hB6 := hide hB6
          go_wp2_with fail
          go_roundw
          case rel => exact ⟨k + 1, by omega, by go_num, by rw [nx.out], HB.out.trans (hB6.out.mono HB.out.size), hG'⟩
          case measure => simp [intOf]; omega
        · have y1 : f.getD k 0 ≠ 100 := hd
          obtain ⟨y, hy⟩ : ∃ y : Nat, (f.getD k 0).toNat = y := ⟨_, rfl⟩
          have y2 : (y : Int) ≠ 100 := fun e => y1 (UInt8.toNat_inj.mp (by rw [hy]; show y = 100; omega))
          rw [hy] at ix
          clear hd y1 hy mo
          go_wp2_with fail
          refine (decimal_of m (by omega) _).mono ?_
          rintro e w6 ⟨rfl, hB6⟩
          have hB6 := hide hB6
          go_wp2_with fail
          go_roundw
          case rel => exact ⟨k + 1, by omega, by go_num, by rw [nx.out], HB.out.trans (hB6.out.mono HB.out.size), hG'⟩
          case measure => simp [intOf]; omega
      · have kf : k < f.length := by have := hn.out; omega
        have ix := fun x => index_form f k kf x
        obtain ⟨x, hx⟩ : ∃ x, X k = x := ⟨_, rfl⟩
        have q2 : wr.cell? ⟨b1, o1 + k, none⟩ = some (.int .i64 x) := by rw [← hx]; exact line_old hB c'
        rw [hx] at hgo
        generalize cmdText wd.toList (natsOf X k) = T at *
        have HB := hide hB
        clear g c' ln hB kf hx
        by_cases hd : f.getD k 0 = 100
        · rw [mostOf, if_pos hd] at hgo
          rw [hd] at ix
          by_cases h0 : x < 0
          · clear hgo
            go_wp2_with fail
            go_ret2
            exact ⟨rfl, by rw [hna.out]; exact b4.out.trans (HB.out.mono nl)⟩
          · have h9 : 9 < x := by omega
            clear hgo
            go_wp2_with fail
            go_ret2
            exact ⟨rfl, by rw [hna.out]; exact b4.out.trans (HB.out.mono nl)⟩
        · rw [mostOf, if_neg hd] at hgo
          obtain ⟨y, hy⟩ : ∃ y : Nat, (f.getD k 0).toNat = y := ⟨_, rfl⟩
          have y2 : (y : Int) ≠ 100 := fun e => hd (UInt8.toNat_inj.mp (by rw [hy]; show y = 100; omega))
          rw [hy] at ix
          clear hd hy
          by_cases h0 : x < 0
          · clear hgo
            go_wp2_with fail
            go_ret2
            exact ⟨rfl, by rw [hna.out]; exact b4.out.trans (HB.out.mono nl)⟩
          · have h9 : 9999999 < x := by omega
            clear hgo
            go_wp2_with fail
            go_ret2
            exact ⟨rfl, by rw [hna.out]; exact b4.out.trans (HB.out.mono nl)⟩
    · obtain rfl : k = n := by omega
      exact absurd hG.out nX.out
theorem lineOf_no (wd : ByteArray) (a : Option Addr) (n cap : Nat) (X : Nat → Int) (n5 : n ≤ 5) (hd : wd.toList.length ≤ 60) (hno : ¬ ∃ f, formL wd.toList = some f ∧ n = f.length ∧ ∀ i, i < n → 0 ≤ X i ∧ X i ≤ mostOf f i) (w : World) (R : RowV w (.slice a n cap) n X) :
    Calls Tryz.prog 12 #[.agg #[.string wd, .slice a n cap]] w fun e w' => e = .returned noLine ∧ Below w.heap.size w w' := by
  cases hf : formL wd.toList with
  | none => exact lineOf_word wd a n cap hf w
  | some f =>
    by_cases hn : n = f.length
    · exact lineOf_bad wd a n cap X f hf hn n5 (fun hX => hno ⟨f, hf, hn, hX⟩) hd w R
    · exact lineOf_len wd a n cap f hf hn w
end Go.Proofs.YtmbfdhekplnoaaaGreatDoor
