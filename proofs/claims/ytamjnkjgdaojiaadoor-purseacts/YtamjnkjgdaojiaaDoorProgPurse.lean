/-
  The program's purse by its contracts.
-/
import Derived.Test.YtamjnkjgdaojiaaDoorKept
import Derived.Test.YtamjnkjgdaojiaaDoorBound
import Derived.Test.YtamjnkjgdaojiaaDoorErrIs
import Derived.Test.YtamjnkjgdaojiaaDoorPurseMath
namespace Go.Proofs.YtamjnkjgdaojiaaDoor
open Go.RowKit

/-- what the purse's errors hold -/
structure PurLaid (w : World) (A : Nat → Addr) : Prop where
  v1 : w.cell? ⟨0, 0, none⟩ = some (sent (A 1))
  v5 : w.cell? ⟨1, 0, none⟩ = some (sent (A 5))
theorem PurLaid.below {w w' : World} {A : Nat → Addr} (h : PurLaid w A) (hB : Below w.heap.size w w') : PurLaid w' A :=
  ⟨by rw [hB.cell (cell_lt h.v1)]; exact h.v1, by rw [hB.cell (cell_lt h.v5)]; exact h.v5⟩
theorem PurLaid.drewN {w : World} {A : Nat → Addr} (h : PurLaid w A) (n : Nat) : PurLaid (w.drewN n) A := h.below (below_drewN (Below.refl _ _) n)
theorem err_none (A : Nat → Addr) {c : Int} (h : c = 0) : ErrIs A .nilIface c := .inl ⟨h, rfl⟩
theorem err_bound (A : Nat → Addr) {c : Int} (h : c = 2) : ErrIs A (sent (A 1)) c := .inr ⟨1, by omega, by omega, rfl⟩
theorem err_short (A : Nat → Addr) {c : Int} (h : c = 6) : ErrIs A (sent (A 5)) c := .inr ⟨5, by omega, by omega, rfl⟩

/-- six numbers, and a seventh -/
structure PRaw (w : World) (b : Nat) (f : Int → Int) (N : Int) : Prop where
  s : ∀ i : Nat, i < 6 → w.cell? ⟨b, i, none⟩ = some (.int .i64 (f i))
  c6 : w.cell? ⟨b, 6, none⟩ = some (.int .i64 N)
  f : ∀ i : Nat, w.frozen? ⟨b, i, none⟩ = false
theorem PRaw.drewN {w : World} {b : Nat} {f : Int → Int} {N : Int} (h : PRaw w b f N) (n : Nat) : PRaw (w.drewN n) b f N := ⟨h.s, h.c6, h.f⟩
theorem PRaw.drew {w : World} {b : Nat} {f : Int → Int} {N : Int} (h : PRaw w b f N) : PRaw w.drew b f N := ⟨h.s, h.c6, h.f⟩
theorem PRaw.setN {w : World} {b : Nat} {f : Int → Int} {N : Int} (h : PRaw w b f N) (v : Int) : PRaw (w.setCell ⟨b, 6, none⟩ (.int .i64 v)) b f v where
  s := fun i hi => by rw [World.cell?_setCell_other _ _ _ _ (fun e => absurd (congrArg Addr.off e) (show ¬ 6 = i by omega))]; exact h.s i hi
  c6 := World.cell?_setCell_same _ _ _ h.c6
  f := fun i => by rw [World.frozen?_setCell]; exact h.f i
theorem PRaw.setO {w : World} {b : Nat} {f : Int → Int} {N : Int} (h : PRaw w b f N) (k : Nat) (hk : k < 6) (v : Int) : PRaw (w.setCell ⟨b, k, none⟩ (.int .i64 v)) b (put f k v) N where
  s := fun i hi => by
    by_cases e : i = k
    · subst e
      rw [World.cell?_setCell_same _ _ _ (h.s i hi), put_same]
    · rw [World.cell?_setCell_other _ _ _ _ (by simp; try omega), put_other _ _ _ _ (by omega)]; exact h.s i hi
  c6 := by rw [World.cell?_setCell_other _ _ _ _ (fun e => absurd (congrArg Addr.off e) (show ¬ k = 6 by omega))]; exact h.c6
  f := fun i => by rw [World.frozen?_setCell]; exact h.f i

/-- the program's purse, as it lies in memory: what each may spend, and what is nobody's -/
structure PurAt (w : World) (b : Nat) (x : Pu) : Prop where
  raw : PRaw w b x.s (x.S - x.sum)
  ok : x.Ok
theorem PurAt.drewN {w : World} {b : Nat} {x : Pu} (h : PurAt w b x) (n : Nat) : PurAt (w.drewN n) b x := ⟨h.raw.drewN n, h.ok⟩
theorem PurAt.lt {w : World} {b : Nat} {x : Pu} (h : PurAt w b x) : b < w.heap.size := cell_lt h.raw.c6
theorem PurAt.kept {w w' : World} {b : Nat} {x : Pu} {X : List Nat} (h : PurAt w b x) (hK : Kept X w w') (hb : b ∉ X) : PurAt w' b x where
  raw := ⟨fun i hi => hK.old (h.raw.s i hi) hb, hK.old h.raw.c6 hb, fun i => by rw [hK.frozen (p := ⟨b, i, none⟩) h.lt hb]; exact h.raw.f i⟩
  ok := h.ok

/-- what is nobody's, and the first so many owners' -/
def preS (N : Int) (f : Int → Int) : Nat → Int
  | 0 => N
  | k + 1 => preS N f k + f k
theorem preS_six (x : Pu) : preS (x.S - x.sum) x.s 6 = x.S := by simp [preS, Pu.sum]; omega
theorem preS_bd {x : Pu} (h : x.Ok) : ∀ k, k ≤ 6 → 0 ≤ preS (x.S - x.sum) x.s k ∧ preS (x.S - x.sum) x.s k ≤ x.S
  | 0, _ => ⟨by have := h.le; simp only [preS]; omega, by have := h.sum0; simp only [preS]; omega⟩
  | k + 1, hk => by
    have h0 := h.pos 0
    have h1 := h.pos 1
    have h2 := h.pos 2
    have h3 := h.pos 3
    have h4 := h.pos 4
    have h5 := h.pos 5
    have hl := h.le
    unfold Pu.sum at hl
    have : k = 0 ∨ k = 1 ∨ k = 2 ∨ k = 3 ∨ k = 4 ∨ k = 5 := by omega
    rcases this with rfl | rfl | rfl | rfl | rfl | rfl <;> (simp [preS, Pu.sum]; omega)
theorem six_at0 (f : Int → Int) (w : World) : (Instr.index 68 (.agg #[.int .i64 (f 0), .int .i64 (f 1), .int .i64 (f 2), .int .i64 (f 3), .int .i64 (f 4), .int .i64 (f 5)]) (.int .i64 0)).run Tryd.prog w = .ok (.int .i64 (f 0)) w := by kernel_rfl
theorem six_at1 (f : Int → Int) (w : World) : (Instr.index 68 (.agg #[.int .i64 (f 0), .int .i64 (f 1), .int .i64 (f 2), .int .i64 (f 3), .int .i64 (f 4), .int .i64 (f 5)]) (.int .i64 1)).run Tryd.prog w = .ok (.int .i64 (f 1)) w := by kernel_rfl
theorem six_at2 (f : Int → Int) (w : World) : (Instr.index 68 (.agg #[.int .i64 (f 0), .int .i64 (f 1), .int .i64 (f 2), .int .i64 (f 3), .int .i64 (f 4), .int .i64 (f 5)]) (.int .i64 2)).run Tryd.prog w = .ok (.int .i64 (f 2)) w := by kernel_rfl
theorem six_at3 (f : Int → Int) (w : World) : (Instr.index 68 (.agg #[.int .i64 (f 0), .int .i64 (f 1), .int .i64 (f 2), .int .i64 (f 3), .int .i64 (f 4), .int .i64 (f 5)]) (.int .i64 3)).run Tryd.prog w = .ok (.int .i64 (f 3)) w := by kernel_rfl
theorem six_at4 (f : Int → Int) (w : World) : (Instr.index 68 (.agg #[.int .i64 (f 0), .int .i64 (f 1), .int .i64 (f 2), .int .i64 (f 3), .int .i64 (f 4), .int .i64 (f 5)]) (.int .i64 4)).run Tryd.prog w = .ok (.int .i64 (f 4)) w := by kernel_rfl
theorem six_at5 (f : Int → Int) (w : World) : (Instr.index 68 (.agg #[.int .i64 (f 0), .int .i64 (f 1), .int .i64 (f 2), .int .i64 (f 3), .int .i64 (f 4), .int .i64 (f 5)]) (.int .i64 5)).run Tryd.prog w = .ok (.int .i64 (f 5)) w := by kernel_rfl
theorem six_at (f : Int → Int) (k : Nat) (hk : k < 6) (w : World) : (Instr.index 68 (.agg #[.int .i64 (f 0), .int .i64 (f 1), .int .i64 (f 2), .int .i64 (f 3), .int .i64 (f 4), .int .i64 (f 5)]) (.int .i64 k)).run Tryd.prog w = .ok (.int .i64 (f k)) w := by
  have : k = 0 ∨ k = 1 ∨ k = 2 ∨ k = 3 ∨ k = 4 ∨ k = 5 := by omega
  rcases this with rfl | rfl | rfl | rfl | rfl | rfl
  · exact six_at0 f w
  · exact six_at1 f w
  · exact six_at2 f w
  · exact six_at3 f w
  · exact six_at4 f w
  · exact six_at5 f w

set_option maxRecDepth 100000 in
set_option maxHeartbeats 1000000 in
theorem pu_supply (b : Nat) (x : Pu) (w : World) (h : PurAt w b x) :
    Calls Tryd.prog 16 #[.pointer (some ⟨b, 0, none⟩)] w fun e w' => e = .returned (.int .i64 x.S) ∧ w' = w := by
  have c6 := h.raw.c6
  have s0 := h.raw.s 0 (by omega)
  have s1 := h.raw.s 1 (by omega)
  have s2 := h.raw.s 2 (by omega)
  have s3 := h.raw.s 3 (by omega)
  have s4 := h.raw.s 4 (by omega)
  have s5 := h.raw.s 5 (by omega)
  have a2 := h.ok.top
  have hx := h.ok
  have E := hide (preS_six x)
  have D := hide (@preS_bd x hx)
  clear h
  obtain ⟨N, hN⟩ : ∃ N, x.S - x.sum = N := ⟨_, rfl⟩
  rw [hN] at c6 E D
  clear hN hx
  go_enter Tryd.func16, Tryd.ntmps16
  go_wp2
  go_loop [3, 14] (fun n i => ∃ k : Nat, k ≤ 6 ∧ i = .int .i64 k ∧ n = .int .i64 (preS N x.s k)) (fun _ i => 6 - (intOf i).toNat)
  case atStart => exact ⟨0, by omega, rfl, rfl⟩
  case round =>
    obtain ⟨k, hk, rfl, rfl⟩ := hrel
    by_cases hlt : k < 6
    · have hi := six_at x.s k hlt
      have hp := D.out k (by omega)
      have hq := D.out (k + 1) (by omega)
      have he : preS N x.s (k + 1) = preS N x.s k + x.s k := rfl
      rw [he] at hq
      clear he
      go_wp2
      go_round
      case rel => exact ⟨k + 1, by omega, by go_num, rfl⟩
      case measure => simp [intOf]; omega
    · obtain rfl : k = 6 := by omega
      go_wp2
      go_ret
      exact ⟨ret_int E.out, rfl⟩
theorem pu_has (b : Nat) (x : Pu) (hx : x.Ok) (o : Int) (w : World) (h : PurAt w b x) :
    Calls Tryd.prog 15 #[.pointer (some ⟨b, 0, none⟩), .int .i64 o] w fun e w' => e = .returned (.int .i64 (x.s o)) ∧ w' = w := by
  by_cases ho : 0 ≤ o ∧ o < 6
  · have Iw := owner_yes o ho.1 ho.2
    obtain ⟨k, rfl⟩ : ∃ k : Nat, o = k := ⟨o.toNat, by omega⟩
    have hk : k < 6 := by omega
    have cs := h.raw.s k hk
    clear ho
    go_enter Tryd.func15, Tryd.ntmps15
    go_wp2_with (go_at_call 36; refine (Iw _).mono ?_; rintro e w' ⟨rfl, rfl⟩)
    go_ret
    exact ⟨rfl, rfl⟩
  · have Iw := owner_no o ho
    have E := hide (hx.out o ho)
    clear ho
    go_enter Tryd.func15, Tryd.ntmps15
    go_wp2_with (go_at_call 36; refine (Iw _).mono ?_; rintro e w' ⟨rfl, rfl⟩)
    go_ret
    exact ⟨ret_int E.out.symm, rfl⟩
set_option maxHeartbeats 1000000 in
/-- may it grow by so much? -/
theorem pu_may (b : Nat) (x : Pu) (hx : x.Ok) (n : Int) (hn : Amt n ∧ x.S + n ≤ 1125899906842624) (w : World) (h : PurAt w b x) :
    Calls Tryd.prog 37 #[.pointer (some ⟨b, 0, none⟩), .int .i64 n] w fun e w' => e = .returned (.bool true) ∧ w' = w := by
  have I := amount_yes n hn.1.1 hn.1.2
  have s0 := hx.sum0
  have a1 := hx.le
  have a2 := hx.top
  have J := amount_yes (x.S + n) (by have := hn.1.1; omega) hn.2
  have n0 := hn.1.1
  have n1 := hn.1.2
  have n2 := hn.2
  clear hn
  go_enter Tryd.func37, Tryd.ntmps37
  go_wp2_with fail
  refine (I _).mono ?_
  rintro e w' ⟨rfl, rfl⟩
  go_wp2_with fail
  refine (pu_supply b x _ h).mono ?_
  rintro e w' ⟨rfl, rfl⟩
  go_wp2_with fail
  refine (J _).mono ?_
  rintro e w' ⟨rfl, rfl⟩
  go_wp2_with fail
  go_ret
  exact ⟨rfl, rfl⟩
set_option maxHeartbeats 1000000 in
theorem pu_mayNot (b : Nat) (x : Pu) (hx : x.Ok) (n : Int) (hn : ¬ (Amt n ∧ x.S + n ≤ 1125899906842624)) (w : World) (h : PurAt w b x) :
    Calls Tryd.prog 37 #[.pointer (some ⟨b, 0, none⟩), .int .i64 n] w fun e w' => e = .returned (.bool false) ∧ w' = w := by
  by_cases hb : Amt n
  · have I := amount_yes n hb.1 hb.2
    have s0 := hx.sum0
    have a1 := hx.le
    have a2 := hx.top
    have n0 := hb.1
    have n1 := hb.2
    have n2 : ¬ x.S + n ≤ 1125899906842624 := fun g => hn ⟨hb, g⟩
    have J := amount_no (x.S + n) (fun g => n2 g.2)
    clear hn hb
    go_enter Tryd.func37, Tryd.ntmps37
    go_wp2_with fail
    refine (I _).mono ?_
    rintro e w' ⟨rfl, rfl⟩
    go_wp2_with fail
    refine (pu_supply b x _ h).mono ?_
    rintro e w' ⟨rfl, rfl⟩
    go_wp2_with fail
    refine (J _).mono ?_
    rintro e w' ⟨rfl, rfl⟩
    go_wp2_with fail
    go_ret
    exact ⟨rfl, rfl⟩
  · have I := amount_no n hb
    clear hn hb
    go_enter Tryd.func37, Tryd.ntmps37
    go_wp2_with fail
    refine (I _).mono ?_
    rintro e w' ⟨rfl, rfl⟩
    go_wp2_with fail
    go_ret
    exact ⟨rfl, rfl⟩
end Go.Proofs.YtamjnkjgdaojiaaDoor
