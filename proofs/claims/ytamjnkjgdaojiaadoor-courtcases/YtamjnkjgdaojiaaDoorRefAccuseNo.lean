/-
  The document's court (bakehouseref2.Court) by its contracts: evidence that is refused; all that is brought.
-/
import Derived.Test.YtamjnkjgdaojiaaDoorRefAccuse
namespace Go.Proofs.YtamjnkjgdaojiaaDoor
open Go.RowKit

theorem RCt.same {F : Nat → Prop} {w w' : World} {cb : Nat} {x y : Ct} (h : RCt F w cb x) (hB : Below w.heap.size w w') (e : y = x) : ∃ F', RCt F' w' cb y ∧ Moved F F' w w' := by
  subst e
  exact ⟨F, h.keptP (KeptP.of_below (F := fun _ => False) hB) (fun _ g => g.elim), KeptP.of_below hB, fun _ _ g => g⟩
set_option maxRecDepth 100000 in
set_option maxHeartbeats 2000000 in
theorem rc_accuse_in (F : Nat → Prop) (cb : Nat) (x : Ct) (o b y m c : Int) (w : World) (h : RCt F w cb x) (h1 : ¬ AccIn o (b, y, m) c) :
    Calls Tryd.prog 33 #[.pointer (some ⟨cb, 0, none⟩), .int .i64 o, .agg #[.int .i64 b, .int .i64 y, .int .i64 m], .int .i64 c] w fun e w' => e = .returned (.int .i64 (x.accC o (b, y, m) c)) ∧ ∃ F', RCt F' w' cb (x.acc o (b, y, m) c) ∧ Moved F F' w w' := by
  have S1 : Hid (x.accC o (b, y, m) c = 2) := if_pos h1
  have S2 : Hid (x.acc o (b, y, m) c = x) := if_neg (by rw [S1.out]; decide)
  have H := hide h
  clear h
  by_cases ho : 0 ≤ o ∧ o < 6
  · have I := isOwner_yes o ho.1 ho.2
    have hc : b < 0 ∨ (0 ≤ b ∧ 3 ≤ b) ∨ (0 ≤ b ∧ b < 3 ∧ m < 0) ∨ (0 ≤ b ∧ b < 3 ∧ 0 ≤ m ∧ c < 0) ∨ (0 ≤ b ∧ b < 3 ∧ 0 ≤ m ∧ 0 ≤ c ∧ 1048576 < c) := by
      unfold AccIn at h1
      simp only [] at h1
      omega
    clear h1 ho
    rcases hc with g | ⟨g1, g⟩ | ⟨g1, g2, g⟩ | ⟨g1, g2, g3, g⟩ | ⟨g1, g2, g3, g4, g⟩ <;>
    · go_enter Tryd.func33, Tryd.ntmps33
      go_wp2_with (go_at_call 44; refine (I _).mono ?_; rintro e w' ⟨rfl, rfl⟩)
      go_ret
      exact ⟨ret_int S1.out.symm, RCt.same H.out ((Below.refl _ _).alloc (Nat.le_refl _) _) S2.out⟩
  · have I := isOwner_no o ho
    clear h1 ho
    go_enter Tryd.func33, Tryd.ntmps33
    go_wp2_with (go_at_call 44; refine (I _).mono ?_; rintro e w' ⟨rfl, rfl⟩)
    go_ret
    exact ⟨ret_int S1.out.symm, RCt.same H.out ((Below.refl _ _).alloc (Nat.le_refl _) _) S2.out⟩
set_option maxRecDepth 100000 in
set_option maxHeartbeats 2000000 in
theorem rc_accuse_now (F : Nat → Prop) (cb : Nat) (x : Ct) (o b y m c : Int) (w : World) (h : RCt F w cb x) (h1 : AccIn o (b, y, m) c) (h2 : ¬ AccNow (b, y, m) c) :
    Calls Tryd.prog 33 #[.pointer (some ⟨cb, 0, none⟩), .int .i64 o, .agg #[.int .i64 b, .int .i64 y, .int .i64 m], .int .i64 c] w fun e w' => e = .returned (.int .i64 (x.accC o (b, y, m) c)) ∧ ∃ F', RCt F' w' cb (x.acc o (b, y, m) c) ∧ Moved F F' w w' := by
  have S1 : Hid (x.accC o (b, y, m) c = 10) := (if_neg (not_not_intro h1)).trans (if_pos h2)
  have S2 : Hid (x.acc o (b, y, m) c = x) := if_neg (by rw [S1.out]; decide)
  have H := hide h
  clear h
  have I := isOwner_yes o h1.1.1 h1.1.2
  have hc : y < 0 ∨ (0 ≤ y ∧ c < y) ∨ (0 ≤ y ∧ y ≤ c ∧ y < c - 2) := by
    unfold AccNow at h2
    simp only [] at h2
    omega
  obtain ⟨_, ⟨b0, b3⟩, m0, c0, c1⟩ := h1
  simp only [] at b0 b3 m0
  clear h2
  rcases hc with g | ⟨g1, g⟩ | ⟨g1, g2, g⟩ <;>
  · go_enter Tryd.func33, Tryd.ntmps33
    go_wp2_with (go_at_call 44; refine (I _).mono ?_; rintro e w' ⟨rfl, rfl⟩)
    go_ret
    exact ⟨ret_int S1.out.symm, RCt.same H.out ((Below.refl _ _).alloc (Nat.le_refl _) _) S2.out⟩
theorem rc_acc (F : Nat → Prop) (cb : Nat) (x : Ct) (hx : x.Ok) (hl : x.L.length ≤ 900) (o b y m c : Int) (w : World) (h : RCt F w cb x) :
    Calls Tryd.prog 33 #[.pointer (some ⟨cb, 0, none⟩), .int .i64 o, .agg #[.int .i64 b, .int .i64 y, .int .i64 m], .int .i64 c] w fun e w' => e = .returned (.int .i64 (x.accC o (b, y, m) c)) ∧ ∃ F', RCt F' w' cb (x.acc o (b, y, m) c) ∧ Moved F F' w w' := by
  by_cases h1 : AccIn o (b, y, m) c
  · by_cases h2 : AccNow (b, y, m) c
    · exact rc_accuse F cb x hx hl o b y m c w h h1 h2
    · exact rc_accuse_now F cb x o b y m c w h h1 h2
  · exact rc_accuse_in F cb x o b y m c w h h1
end Go.Proofs.YtamjnkjgdaojiaaDoor
