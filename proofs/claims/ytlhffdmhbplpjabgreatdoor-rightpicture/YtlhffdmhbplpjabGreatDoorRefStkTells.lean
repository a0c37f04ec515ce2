/-
  The document's stakes (bakehouseref2.Stakes) by their contracts: what they tell.
-/
import Derived.Test.YtlhffdmhbplpjabGreatDoorRefStk
namespace Go.Proofs.YtlhffdmhbplpjabGreatDoor
open Go.RowKit

theorem ret_bool {a b : Bool} (h : a = b) : Ending.returned (.bool a) = .returned (.bool b) := by rw [h]
theorem rs_is (tag : Nat → Nat) (sb pb : Nat) (v : Value) (L : List Wt) (S : Sk) (hS : S.Ok) (b : Int) (w : World) (h : RSkAt tag w sb pb v L S) :
    Calls Tryz.prog 12 #[.pointer (some ⟨sb, 0, none⟩), .int .i64 b] w fun e w' => e = .returned (.bool (S.R b)) ∧ w' = w := by
  have c0 := h.c0
  by_cases hb : 0 ≤ b ∧ b < 3
  · obtain ⟨k, rfl⟩ : ∃ k : Nat, b = k := ⟨b.toNat, by omega⟩
    have hk : k < 3 := by omega
    cases hr : S.R k with
    | true =>
      obtain ⟨x, q, hc, _⟩ := h.p k hk hr
      have hR := hide hr
      clear hr
      go_enter Tryz.func12, Tryz.ntmps12
      go_wp2
      go_ret
      exact ⟨rfl, rfl⟩
    | false =>
      have hc := h.p0 k hk hr
      have hR := hide hr
      clear hr
      go_enter Tryz.func12, Tryz.ntmps12
      go_wp2
      go_ret
      exact ⟨rfl, rfl⟩
  · have hR : Hid (S.R b = false) := by
      cases g : S.R b with
      | false => rfl
      | true => exact absurd (hS.rin b g) hb
    by_cases h0 : 0 ≤ b
    · have h3 : ¬ b < 3 := by omega
      clear hb
      go_enter Tryz.func12, Tryz.ntmps12
      go_wp2
      go_ret
      exact ⟨ret_bool hR.out.symm, rfl⟩
    · clear hb
      go_enter Tryz.func12, Tryz.ntmps12
      go_wp2
      go_ret
      exact ⟨ret_bool hR.out.symm, rfl⟩

theorem rs_staked (tag : Nat → Nat) (sb pb : Nat) (v : Value) (L : List Wt) (S : Sk) (hS : S.Ok) (b : Int) (w : World) (h : RSkAt tag w sb pb v L S) :
    Calls Tryz.prog 14 #[.pointer (some ⟨sb, 0, none⟩), .int .i64 b] w fun e w' => e = .returned (.int .i64 (S.P b).T) ∧ w' = w := by
  have I := rs_is tag sb pb v L S hS b w h
  have c0 := h.c0
  cases hr : S.R b with
  | true =>
    obtain ⟨k, rfl⟩ : ∃ k : Nat, b = k := ⟨b.toNat, by have := hS.rin b hr; omega⟩
    have hk : k < 3 := by have := hS.rin _ hr; omega
    obtain ⟨x, q, hc, hR, _⟩ := h.p k hk hr
    have t0 := hR.c0
    rw [hr] at I
    clear hr
    go_enter Tryz.func14, Tryz.ntmps14
    go_wp2_with (go_at_call 12; refine I.mono ?_; rintro e w' ⟨rfl, rfl⟩)
    go_ret
    exact ⟨rfl, rfl⟩
  | false =>
    rw [hr] at I
    have e0' : Hid ((S.P b).T = 0) := by rw [hS.pout b hr]; rfl
    clear hr
    go_enter Tryz.func14, Tryz.ntmps14
    go_wp2_with (go_at_call 12; refine I.mono ?_; rintro e w' ⟨rfl, rfl⟩)
    go_ret
    exact ⟨ret_int e0'.out.symm, rfl⟩

theorem rs_value (tag : Nat → Nat) (sb pb : Nat) (v : Value) (L : List Wt) (S : Sk) (hS : S.Ok) (o b : Int) (w : World) (h : RSkAt tag w sb pb v L S) :
    Calls Tryz.prog 16 #[.pointer (some ⟨sb, 0, none⟩), .int .i64 o, .int .i64 b] w fun e w' => e = .returned (.int .i64 ((S.P b).val o)) ∧ ∃ n, w' = w.drewN n := by
  have I := rs_is tag sb pb v L S hS b w h
  have c0 := h.c0
  cases hr : S.R b with
  | true =>
    obtain ⟨k, rfl⟩ : ∃ k : Nat, b = k := ⟨b.toNat, by have := hS.rin b hr; omega⟩
    have hk : k < 3 := by have := hS.rin _ hr; omega
    obtain ⟨x, q, hc, hR, _⟩ := h.p k hk hr
    have V := ref_value x q _ (hS.pok k) o w hR
    rw [hr] at I
    clear hr hR
    go_enter Tryz.func16, Tryz.ntmps16
    go_wp2_with (first | (go_at_call 12; refine I.mono ?_; rintro e w' ⟨rfl, rfl⟩) | (go_at_call 40; refine V.mono ?_; rintro e w' ⟨rfl, m, rfl⟩))
    go_ret
    exact ⟨rfl, _, rfl⟩
  | false =>
    rw [hr] at I
    have e0' : Hid ((S.P b).val o = 0) := by rw [hS.pout b hr]; exact e0_val o
    clear hr
    go_enter Tryz.func16, Tryz.ntmps16
    go_wp2_with (go_at_call 12; refine I.mono ?_; rintro e w' ⟨rfl, rfl⟩)
    go_ret
    exact ⟨ret_int e0'.out.symm, 0, rfl⟩

/-- where a key lies, or that it is none -/
def foundAt (L : List Wt) (b c i : Int) : Prop := (i = -1 ∧ (b, c) ∉ L.map Wt.key) ∨ ∃ (j : Nat) (t : Wt), i = j ∧ L[j]? = some t ∧ t.1 = b ∧ t.2.1 = c
theorem RSkAt.row {tag : Nat → Nat} {w : World} {sb pb : Nat} {v : Value} {L : List Wt} {S : Sk} (h : RSkAt tag w sb pb v L S) (hl : 0 < L.length) : ∃ g cap, v = .slice (some ⟨g, 0, none⟩) L.length cap ∧ (∀ i t, L[i]? = some t → w.cell? ⟨g, i * 3, none⟩ = some (.int .i64 t.1) ∧ w.cell? ⟨g, i * 3 + 1, none⟩ = some (.int .i64 t.2.1) ∧ w.cell? ⟨g, i * 3 + 2, none⟩ = some (.pointer (some ⟨t.2.2, 0, none⟩))) ∧ (∀ j, w.frozen? ⟨g, j, none⟩ = false) := by
  rcases h.own.2 with ⟨_, h0⟩ | ⟨g, cap, cur, rfl, _⟩
  · omega
  · refine ⟨g, cap, rfl, fun i t ht => ?_, fun j => h.own.frozenAt j⟩
    have hi := (List.getElem?_eq_some_iff.1 ht).1
    obtain ⟨a, b, c⟩ := wrow_at L i t ht
    exact ⟨(h.own.cellAt _ (by omega)).trans a, (h.own.cellAt _ (by omega)).trans b, (h.own.cellAt _ (by omega)).trans c⟩
theorem RSkAt.shape {tag : Nat → Nat} {w : World} {sb pb : Nat} {v : Value} {L : List Wt} {S : Sk} (h : RSkAt tag w sb pb v L S) : ∃ a cap, v = .slice a L.length cap := by
  rcases h.own.2 with ⟨e, h0⟩ | ⟨g, cap, cur, e, _⟩
  · exact ⟨none, 0, by rw [e, h0]⟩
  · exact ⟨_, _, e⟩
set_option maxRecDepth 100000 in
set_option maxHeartbeats 1000000 in
theorem rs_find (tag : Nat → Nat) (sb pb : Nat) (v : Value) (L : List Wt) (S : Sk) (b c : Int) (hL : L.length ≤ 1000) (w : World) (h : RSkAt tag w sb pb v L S) :
    Calls Tryz.prog 42 #[.pointer (some ⟨sb, 0, none⟩), .int .i64 b, .int .i64 c] w fun e w' => (∃ i, e = .returned (.int .i64 i) ∧ foundAt L b c i) ∧ w' = w := by
  have c1 := h.c1
  obtain ⟨a, cap, rfl⟩ := h.shape
  go_enter Tryz.func42, Tryz.ntmps42
  go_wp2
  go_loopw [6, 7] (fun r i wr => ∃ k : Nat, k ≤ L.length ∧ r = .int .i64 0 ∧ i = .int .i64 k ∧ wr = w ∧ Hid (∀ (j : Nat) (t : Wt), j < k → L[j]? = some t → ¬ (t.1 = b ∧ t.2.1 = c))) (fun _ i _ => L.length - (intOf i).toNat)
  case atStart => exact ⟨0, Nat.zero_le _, rfl, rfl, rfl, fun j t hj => absurd hj (Nat.not_lt_zero j)⟩
  case round =>
    obtain ⟨k, hk, rfl, rfl, rfl, hno⟩ := hrel
    by_cases hlt : k < L.length
    · obtain ⟨g, cap', e, hc, _⟩ := h.row (by omega)
      obtain ⟨rfl, rfl⟩ : a = some ⟨g, 0, none⟩ ∧ cap = cap' := by cases e; exact ⟨rfl, rfl⟩
      obtain ⟨t, ht⟩ : ∃ t, L[k]? = some t := ⟨L[k], List.getElem?_eq_getElem hlt⟩
      obtain ⟨d0, d1, _⟩ := hc k t ht
      by_cases e1 : t.1 = b
      · by_cases e2 : t.2.1 = c
        · have T1 : (t.1 == b) = true := by simp [e1]
          have T2 : (t.2.1 == c) = true := by simp [e2]
          have E : Hid (foundAt L b c k) := .inr ⟨k, t, rfl, ht, e1, e2⟩
          clear e1 e2 hno e hc ht h
          go_wp2
          go_ret
          exact ⟨⟨_, rfl, E.out⟩, rfl⟩
        · have T1 : (t.1 == b) = true := by simp [e1]
          have T2 : (t.2.1 == c) = false := by simp [e2]
          have E : Hid (∀ (j : Nat) (t : Wt), j < k + 1 → L[j]? = some t → ¬ (t.1 = b ∧ t.2.1 = c)) := fun j u hj hu g => by
            rcases Nat.lt_or_eq_of_le (Nat.le_of_lt_succ hj) with l | l
            · exact hno.out j u l hu g
            · subst l; rw [ht] at hu; cases hu; exact e2 g.2
          clear e1 e2 hno e hc ht h
          go_wp2
          go_roundw
          case rel => exact ⟨k + 1, by omega, rfl, by go_num, trivial, E⟩
          case measure => simp [intOf]; omega
      · have T1 : (t.1 == b) = false := by simp [e1]
        have E : Hid (∀ (j : Nat) (t : Wt), j < k + 1 → L[j]? = some t → ¬ (t.1 = b ∧ t.2.1 = c)) := fun j u hj hu g => by
          rcases Nat.lt_or_eq_of_le (Nat.le_of_lt_succ hj) with l | l
          · exact hno.out j u l hu g
          · subst l; rw [ht] at hu; cases hu; exact e1 g.1
        clear e1 hno e hc ht h
        go_wp2
        go_roundw
        case rel => exact ⟨k + 1, by omega, rfl, by go_num, trivial, E⟩
        case measure => simp [intOf]; omega
    · obtain rfl : k = L.length := by omega
      have E : Hid (foundAt L b c (-1)) := .inl ⟨rfl, fun g => by
        obtain ⟨t, ht, e⟩ := List.mem_map.1 g
        obtain ⟨j, hj, ej⟩ := List.mem_iff_getElem.1 ht
        cases e
        exact hno.out j t hj (by rw [List.getElem?_eq_getElem hj, ej]) ⟨rfl, rfl⟩⟩
      clear hno h
      go_wp2
      go_ret
      exact ⟨⟨_, rfl, E.out⟩, rfl⟩
end Go.Proofs.YtlhffdmhbplpjabGreatDoor
