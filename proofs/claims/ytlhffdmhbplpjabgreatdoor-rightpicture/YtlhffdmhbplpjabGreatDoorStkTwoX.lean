/-
  What Code tells of an error, by its number.
  The second package of laws: an error by its number.
  Stakes, plainly: how many pools wait.
  The program's stakes and the document's, side by side.
-/
import Derived.Test.YtlhffdmhbplpjabGreatDoorCode
import Derived.Test.YtlhffdmhbplpjabGreatDoorStakeMathX
import Derived.Test.YtlhffdmhbplpjabGreatDoorProgStkActs
import Derived.Test.YtlhffdmhbplpjabGreatDoorRefStkLeave
import Derived.Test.YtlhffdmhbplpjabGreatDoorRefStkSlash
import Derived.Test.YtlhffdmhbplpjabGreatDoorProgStkX
namespace Go.Proofs.YtlhffdmhbplpjabGreatDoor
open Go.RowKit

theorem ErrIs.tells {A : Nat → Addr} {e : Value} {c : Int} (h : ErrIs A e c) {w : World} (hL : Laid w A) : Tells w e c (-1) := by
  rcases h with ⟨rfl, rfl⟩ | ⟨i, hi, rfl, rfl⟩
  · exact tells_nil w
  · exact tells_sent hL i hi
end Go.Proofs.YtlhffdmhbplpjabGreatDoor

namespace Go.Proofs.YtlhffdmhbplpjabGreatDoor
open Go.RowKit

set_option maxHeartbeats 400000 in
theorem coded2_of {w : World} {x : Value} {c : Int} (h : Tells w x c (-1)) : Calls Tryz.prog 26 #[x, .int .i64 c] w fun e w' => e = .returned (.bool true) ∧ Below w.heap.size w w' := by
  have H := hide (h w (Below.refl _ _))
  clear h
  go_enter Tryz.func26, Tryz.ntmps26
  go_wp2_with fail
  refine H.out.mono ?_
  rintro e w' ⟨rfl, hB⟩
  go_wp2
  go_ret
  exact ⟨rfl, hB⟩
end Go.Proofs.YtlhffdmhbplpjabGreatDoor

namespace Go.Proofs.YtlhffdmhbplpjabGreatDoor

theorem reg_len (S : Sk) (b : Int) : (S.reg b).K.length ≤ S.K.length + 1 := by unfold Sk.reg; split <;> exact Nat.le_succ _
theorem join_len (S : Sk) (o b n : Int) : (S.join o b n).K.length ≤ S.K.length + 1 := by unfold Sk.join; split <;> exact Nat.le_succ _
theorem leave_len (S : Sk) (o b n c : Int) : (S.leave o b n c).K.length ≤ S.K.length + 1 := by
  unfold Sk.leave
  split
  · exact keyed2_len S.K b c
  · exact Nat.le_succ _
theorem free_len (S : Sk) (o c : Int) : (S.free o c).K.length ≤ S.K.length + 1 := by unfold Sk.free; split <;> exact Nat.le_succ _
theorem add_len (S : Sk) (b n : Int) : (S.add b n).K.length ≤ S.K.length + 1 := by unfold Sk.add; split <;> exact Nat.le_succ _
theorem slash_len (S : Sk) (b f p : Int) : (S.slash b f p).K.length ≤ S.K.length + 1 := by unfold Sk.slash; split <;> exact Nat.le_succ _
end Go.Proofs.YtlhffdmhbplpjabGreatDoor

namespace Go.Proofs.YtlhffdmhbplpjabGreatDoor
open Go.RowKit

theorem Laid.stk {w : World} {A : Nat → Addr} (h : Laid w A) : StkLaid w A := ⟨h.v1, h.v3, h.v4, h.v5, h.v6, h.v7⟩
theorem PSk.drewN {F : Nat → Prop} {w : World} {sb g : Nat} {S : Sk} (h : PSk F w sb S g) (n : Nat) : PSk F (w.drewN n) sb S g := h.keptP (G := fun _ => False) ((KeptP.refl _ _).drewN n) (fun _ g => g.elim)
theorem PSk.nextB {F : Nat → Prop} {w w' : World} {sb g : Nat} {S : Sk} (h : PSk F w sb S g) (k : Below w.heap.size w w') : PSk F w' sb S g := h.keptP (KeptP.of_below (F := fun _ => False) k) fun _ g => g.elim
theorem RSk.nextB {F : Nat → Prop} {w w' : World} {sb : Nat} {S : Sk} (h : RSk F w sb S) (k : Below w.heap.size w w') : RSk F w' sb S := h.keptP (KeptP.of_below (F := fun _ => False) k) fun _ g => g.elim
/-- a step of the first -/
theorem Sides.first {B : Nat} {w0 w w' : World} {F F' G : Nat → Prop} {rb : Nat} {T : Sk} (h : Sides B w0 w F G) (hR : RSk G w rb T) (hM : Moved F F' w w') : RSk G w' rb T ∧ Sides B w0 w' F' G := by
  refine ⟨hR.keptP hM.kept h.apart, fun k hk hg => ?_, fun k hk => ?_, h.g, h.below.trans (hM.kept.below h.size h.f), Nat.le_trans h.size hM.kept.size⟩
  · exact h.apart k (hM.old k (hR.lt k hg) hk) hg
  · rcases Nat.lt_or_ge k w.heap.size with l | l
    · exact h.f k (hM.old k l hk)
    · exact Nat.le_trans h.size l
/-- a step of the second -/
theorem Sides.second {B : Nat} {w0 w w' : World} {F G G' : Nat → Prop} {sb g : Nat} {S : Sk} (h : Sides B w0 w F G) (hP : PSk F w sb S g) (hM : Moved G G' w w') : PSk F w' sb S g ∧ Sides B w0 w' F G' := by
  refine ⟨hP.keptP hM.kept (fun k hg hf => h.apart k hf hg), fun k hk hg => ?_, h.f, fun k hk => ?_, h.below.trans (hM.kept.below h.size h.g), Nat.le_trans h.size hM.kept.size⟩
  · exact h.apart k hk (hM.old k (hP.lt k hk) hg)
  · rcases Nat.lt_or_ge k w.heap.size with l | l
    · exact h.g k (hM.old k l hk)
    · exact Nat.le_trans h.size l
/-- both after an act: the same stakes -/
def Both (B : Nat) (w0 w : World) (sb rb : Nat) (g l : Nat) : Prop := ∃ F G S, S.Ok ∧ S.K.length ≤ l ∧ PSk F w sb S g ∧ RSk G w rb S ∧ Sides B w0 w F G
theorem RSk.len {G : Nat → Prop} {w : World} {rb : Nat} {S : Sk} (h : RSk G w rb S) {m : Nat} (hl : S.K.length ≤ m) : ∃ tag pb v L, (∀ k, G k ↔ tag k ≠ 0) ∧ RSkAt tag w rb pb v L S ∧ L.length ≤ m := by
  obtain ⟨tag, pb, v, L, hF, h⟩ := h
  exact ⟨tag, pb, v, L, hF, h, by rw [← h.klen]; exact hl⟩
theorem rsk_is (G : Nat → Prop) (rb : Nat) (S : Sk) (hS : S.Ok) (b : Int) (w : World) (h : RSk G w rb S) :
    Calls Tryz.prog 12 #[.pointer (some ⟨rb, 0, none⟩), .int .i64 b] w fun e w' => e = .returned (.bool (S.R b)) ∧ w' = w := by
  obtain ⟨tag, pb, v, L, _, h⟩ := h
  exact rs_is tag rb pb v L S hS b w h
theorem rsk_staked (G : Nat → Prop) (rb : Nat) (S : Sk) (hS : S.Ok) (b : Int) (w : World) (h : RSk G w rb S) :
    Calls Tryz.prog 14 #[.pointer (some ⟨rb, 0, none⟩), .int .i64 b] w fun e w' => e = .returned (.int .i64 (S.P b).T) ∧ w' = w := by
  obtain ⟨tag, pb, v, L, _, h⟩ := h
  exact rs_staked tag rb pb v L S hS b w h
theorem rsk_value (G : Nat → Prop) (rb : Nat) (S : Sk) (hS : S.Ok) (o b : Int) (w : World) (h : RSk G w rb S) :
    Calls Tryz.prog 16 #[.pointer (some ⟨rb, 0, none⟩), .int .i64 o, .int .i64 b] w fun e w' => e = .returned (.int .i64 ((S.P b).val o)) ∧ ∃ n, w' = w.drewN n := by
  obtain ⟨tag, pb, v, L, _, h⟩ := h
  exact rs_value tag rb pb v L S hS o b w h
theorem rsk_waits (G : Nat → Prop) (rb : Nat) (S : Sk) (hS : S.Ok) (hl : S.K.length ≤ 1000) (o b c : Int) (w : World) (h : RSk G w rb S) :
    Calls Tryz.prog 18 #[.pointer (some ⟨rb, 0, none⟩), .int .i64 o, .int .i64 b, .int .i64 c] w fun e w' => e = .returned (.int .i64 ((S.W b c).val o)) ∧ ∃ n, w' = w.drewN n := by
  obtain ⟨tag, pb, v, L, _, h, hL⟩ := h.len hl
  exact rs_waits tag rb pb v L S hS o b c hL w h
theorem rsk_total (G : Nat → Prop) (rb : Nat) (S : Sk) (hS : S.Ok) (hl : S.K.length ≤ 1000) (w : World) (h : RSk G w rb S) :
    Calls Tryz.prog 10 #[.pointer (some ⟨rb, 0, none⟩)] w fun e w' => e = .returned (.int .i64 S.total) ∧ w' = w := by
  obtain ⟨tag, pb, v, L, _, h, hL⟩ := h.len hl
  exact rs_total tag rb pb v L S hS hL w h
end Go.Proofs.YtlhffdmhbplpjabGreatDoor
