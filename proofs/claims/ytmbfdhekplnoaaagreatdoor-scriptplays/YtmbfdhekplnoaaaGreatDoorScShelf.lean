/-
  A line cut at its blanks (strings.Split), a number in digits (strconv.Itoa), by their contracts.
-/
import Derived.Test.YtmbfdhekplnoaaaGreatDoorScLays
import Derived.Test.YtmbfdhekplnoaaaGreatDoorProgPurseActsX
import Derived.Test.YtmbfdhekplnoaaaGreatDoorIssueMathX
import Derived.Lib.SplitLaws
namespace Go.Proofs.YtmbfdhekplnoaaaGreatDoor
open Go.RowKit

theorem first_blank : ∀ s : List UInt8, ¬ (∀ x, x ∈ s → x ≠ 32) → ∃ a t, s = a ++ 32 :: t ∧ ∀ x, x ∈ a → x ≠ 32
  | [], h => absurd (fun x hx => absurd hx (by simp)) h
  | b :: l, h => by
    by_cases e : b = 32
    · exact ⟨[], l, by rw [e]; rfl, fun x hx => absurd hx (by simp)⟩
    · obtain ⟨a, t, h1, h2⟩ := first_blank l fun z => h fun x hx => (List.mem_cons.1 hx).elim (fun q => by rw [q]; exact e) (z x)
      exact ⟨b :: a, t, by rw [h1]; rfl, fun x hx => (List.mem_cons.1 hx).elim (fun q => by rw [q]; exact e) (h2 x)⟩
theorem blank_at : ∀ a t : List UInt8, (∀ x, x ∈ a → x ≠ 32) → Lib.indexByte (a ++ 32 :: t) 32 = (a.length : Int)
  | [], t, _ => rfl
  | b :: l, t, h => by
    have ih := blank_at l t fun x hx => h x (List.mem_cons_of_mem _ hx)
    have e : (b == 32) = false := beq_eq_false_iff_ne.2 (h b (List.mem_cons_self ..))
    rw [List.cons_append, Lib.indexByte, e, ih]
    have n : ((l.length : Int) == -1) = false := beq_eq_false_iff_ne.2 (by omega)
    rw [n]
    simp
theorem split_cuts : ∀ (n : Nat) (s : List UInt8), s.length ≤ n → Lib.splitK [32] 0 (Lib.count s [32]) s = cuts s := by
  intro n
  induction n with
  | zero =>
    intro s h
    obtain rfl : s = [] := List.length_eq_zero_iff.1 (by omega)
    rfl
  | succ n ih =>
    intro s h
    rw [Lib.count_one]
    by_cases hb : ∀ x, x ∈ s → x ≠ 32
    · rw [List.count_eq_zero.2 fun z => hb _ z rfl, cuts_word s hb]
      rfl
    · obtain ⟨a, t, rfl, ha⟩ := first_blank s hb
      have c : (a ++ 32 :: t).count 32 = t.count 32 + 1 := by
        rw [List.count_append, List.count_eq_zero.2 fun z => ha _ z rfl, List.count_cons_self]; omega
      have l : (a ++ 32 :: t).length = a.length + t.length + 1 := by simp; omega
      rw [c, Lib.splitK, Lib.index_one, blank_at a t ha]
      have n0 : ((a.length : Int) == -1) = false := beq_eq_false_iff_ne.2 (by omega)
      rw [n0]
      simp only [Bool.false_eq_true, if_false, Int.toNat_natCast, Nat.add_zero]
      rw [List.take_left' rfl, show a.length + [(32 : UInt8)].length = a.length + 1 from rfl]
      rw [show (a ++ 32 :: t).drop (a.length + 1) = t from by rw [List.drop_append]; simp]
      rw [cuts_more a t ha, ← ih t (by omega), Lib.count_one]
theorem bs_of (s : ByteArray) : bs s.data.toList = s := rfl
theorem bs_data (l : List UInt8) : (bs l).data.toList = l := by simp [bs]
theorem split_pieces (l : List UInt8) : Lib.splitB ⟨#[32]⟩ 0 (Lib.countB (bs l) ⟨#[32]⟩) (bs l) = (cuts l).map bs := by
  have h := Lib.splitB_data ⟨#[32]⟩ 0 (Lib.countB (bs l) ⟨#[32]⟩) (bs l)
  rw [bs_data] at h
  have c : Lib.countB (bs l) ⟨#[32]⟩ = Lib.count l [32] := by show Lib.count (bs l).data.toList _ = _; rw [bs_data]
  rw [c] at h ⊢
  rw [show (⟨#[32]⟩ : ByteArray).data.toList = [32] from rfl, split_cuts _ l (Nat.le_refl _)] at h
  rw [← h, List.map_map]
  conv => lhs; rw [← List.map_id (Lib.splitB _ _ _ _)]
  apply List.map_congr_left
  intro x _
  rfl
theorem sc_split (l : List UInt8) (hl : l.length < 4294967281) (w : World) :
    Calls Tryz.prog 144 #[.string (bs l), .string { data := #[32] }] w fun e w' => e = .returned (.slice (some ⟨w.heap.size, 0, none⟩) (cuts l).length (cuts l).length) ∧ w' = w.alloc (.cells ((cuts l).map fun x => Value.string (bs x)).toArray 9) := by
  have h1 : 1 ≤ (⟨#[32]⟩ : ByteArray).size := Nat.le_refl _
  have hs : (bs l).size < 4294967281 := by rw [bs_size]; exact hl
  have hi : (Tryz.prog.info? (Tryz.lays146_ren.t 9)).map (fun i => (i.zero, i.size, i.bytes)) = some (some (.string ByteArray.empty), 1, 16) := by kernel_rfl
  have hle := Lib.countB_le ⟨#[32]⟩ h1 (bs l).size (bs l) (Nat.le_refl _)
  have hlen := Lib.splitB_all ⟨#[32]⟩ h1 0 _ (bs l) rfl
  have L := Tryz.lays146
  have c := Any.strings_genSplit_core { L with } hi (bs l) ⟨#[32]⟩ 0 (-1) (Lib.countB (bs l) ⟨#[32]⟩ + 1) w hs h1 (Nat.zero_le _)
    (fun x c _ => (Any.strings_Index_one { L with } x 32 _).mono fun e w' ⟨he, hw⟩ => ⟨by rw [he]; show _ = Ending.returned (Value.int .i64 (Lib.index _ [32])); rw [Lib.index_one], hw⟩)
    ((Any.strings_Count_one { L with } (bs l) 32 w).mono fun e w' ⟨he, hw⟩ => ⟨by rw [he]; show _ = Ending.returned (Value.int .i64 ((Lib.count (bs l).data.toList [32] : Nat) : Int)); rw [Lib.count_one]; rfl, hw⟩)
    (by decide) (by decide) (by rw [if_pos (by decide)]; omega)
  rw [Nat.add_sub_cancel, hlen] at c
  have e2 : Lib.cellsOf (Lib.splitB ⟨#[32]⟩ 0 (Lib.countB (bs l) ⟨#[32]⟩) (bs l)) (Lib.countB (bs l) ⟨#[32]⟩ + 1) = ((cuts l).map fun x => Value.string (bs x)).toArray := by
    rw [← hlen, Lib.cellsOf_full, split_pieces, List.map_map]
    rfl
  have e3 : Lib.countB (bs l) ⟨#[32]⟩ + 1 = (cuts l).length := by rw [← hlen, split_pieces, List.length_map]
  rw [e2, e3] at c
  have d : Calls Tryz.prog 218 #[.string (bs l), .string { data := #[32] }, .int .i64 0, .int .i64 (-1)] w fun e w' => e = .returned (.slice (some ⟨w.heap.size, 0, none⟩) (cuts l).length (cuts l).length) ∧ w' = w.alloc (.cells ((cuts l).map fun x => Value.string (bs x)).toArray 9) := c
  clear c e2 e3 hlen hle hi hs h1 L
  go_enter Tryz.func144, Tryz.ntmps144
  go_wp2_with (go_at_call 218; refine d.mono ?_; rintro e w' ⟨rfl, hw⟩; rw [hw])
  go_ret
  exact ⟨rfl, rfl⟩
theorem digits_dec (n : Nat) : Lib.decDigits n = dec n := by
  induction n using Nat.strongRecOn with
  | _ n ih =>
    by_cases h : n < 10
    · rw [Lib.decDigits, dif_pos h, dec_one h]
    · rw [Lib.decDigits, dif_neg h, dec_more (by omega), ih (n / 10) (by omega)]
def Tens (w : World) : Prop := Lib.TabIs Tryz.prog w "internal/strconv.uint64pow10" .u64 Lib.pow10Tab
theorem Tens.below {w w' : World} (h : Tens w) (hB : Below w.heap.size w w') : Tens w' := by
  unfold Tens Lib.TabIs World.var? at *
  cases e : Tryz.prog.globalNamed "internal/strconv.uint64pow10" with
  | none => rw [e] at h; cases h
  | some g =>
    rw [e] at h
    simp only [Option.bind_some] at h ⊢
    have l : g < w.heap.size := Nat.lt_of_not_le fun z => by
      rw [Array.getElem?_eq_none z] at h
      cases h
    rw [hB.block g l]
    exact h
theorem grow_below (w : World) (k : Nat) (os : Array Obj) : Below w.heap.size w (Sort.grow (w.drewN k) os) := by
  have h := below_drewN (Below.refl w.heap.size w) k
  refine ⟨h.os, h.tape, h.output, ?_, fun i hi => ?_⟩
  · have := h.size
    simp only [Sort.grow, Array.size_append]
    omega
  · have g := h.block i hi
    rw [← g]
    simp only [Sort.grow]
    rw [Array.getElem?_append_left (by have := h.size; omega)]
theorem sc_itoa (n : Int) (h0 : 0 ≤ n) (h1 : n ≤ 9223372036854775807) (w : World) (hT : Tens w) :
    Calls Tryz.prog 133 #[.int .i64 n] w fun e w' => e = .returned (.string (bs (dec n.toNat))) ∧ Below w.heap.size w w' := by
  have c : Calls Tryz.prog 133 #[.int .i64 n] w fun e w' => e = .returned (.string ⟨(Lib.itoa n).toArray⟩) ∧ ∃ k os, w' = Sort.grow (w.drewN k) os := Any.strconv_Itoa Tryz.laysM171 n (by omega) h1 w hT
  refine c.mono ?_
  rintro e w' ⟨rfl, k, os, rfl⟩
  refine ⟨?_, grow_below w k os⟩
  obtain ⟨m, rfl⟩ : ∃ m : Nat, n = m := ⟨n.toNat, by omega⟩
  rw [Lib.itoa_nonneg, digits_dec, Int.toNat_natCast]
  rfl
end Go.Proofs.YtmbfdhekplnoaaaGreatDoor
