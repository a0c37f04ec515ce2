/-
  The program's stakes as they lie in memory: three bakers, each with what is its own.
-/
import Derived.Test.YtlhffdmhbplpjabDoorProgBk
import Derived.Test.YtlhffdmhbplpjabDoorErrIs
namespace Go.Proofs.YtlhffdmhbplpjabDoor
open Go.RowKit

/-- what the stakes' errors hold -/
structure StkLaid (w : World) (A : Nat → Addr) : Prop where
  v1 : w.cell? ⟨0, 0, none⟩ = some (sent (A 1))
  v3 : w.cell? ⟨3, 0, none⟩ = some (sent (A 3))
  v4 : w.cell? ⟨2, 0, none⟩ = some (sent (A 4))
  v5 : w.cell? ⟨1, 0, none⟩ = some (sent (A 5))
  v6 : w.cell? ⟨7, 0, none⟩ = some (sent (A 6))
  v7 : w.cell? ⟨8, 0, none⟩ = some (sent (A 7))
theorem stk_old {w w' : World} (hB : Below w.heap.size w w') {a : Addr} {v : Value} (h : w.cell? a = some v) : w'.cell? a = some v := by rw [hB.cell (cell_lt h)]; exact h
theorem StkLaid.below {w w' : World} {A : Nat → Addr} (h : StkLaid w A) (hB : Below w.heap.size w w') : StkLaid w' A :=
  ⟨stk_old hB h.v1, stk_old hB h.v3, stk_old hB h.v4, stk_old hB h.v5, stk_old hB h.v6, stk_old hB h.v7⟩
theorem StkLaid.drewN {w : World} {A : Nat → Addr} (h : StkLaid w A) (n : Nat) : StkLaid (w.drewN n) A := h.below (below_drewN (Below.refl _ _) n)
theorem StkLaid.pool {w : World} {A : Nat → Addr} (h : StkLaid w A) : PoolLaid w A true := ⟨h.v1, h.v3, fun _ => h.v5, h.v6, h.v7⟩

/-- the program's stakes: what is each baker's, and where it lies -/
structure PSkAt (G : Int → Nat → Prop) (bb : Int → Nat) (w : World) (sb : Nat) (S : Sk) (gb : Int → Nat) : Prop where
  c : ∀ b : Nat, b < 3 → w.cell? ⟨sb, b, none⟩ = some (.pointer (if S.R b then some ⟨bb b, 0, none⟩ else none))
  f : ∀ b : Nat, b < 3 → w.frozen? ⟨sb, b, none⟩ = false
  bk : ∀ b, S.R b = true → Bkr (G b) w (bb b) (S.P b) (S.W b) (gb b)
  out : ∀ b, S.R b = false → ∀ k, ¬ G b k
  apart : ∀ b b' k, G b k → G b' k → b = b'
  nsb : ∀ b k, G b k → k ≠ sb
/-- the program's stakes: what blocks are theirs; g: how often their maps were written at most -/
def PSk (F : Nat → Prop) (w : World) (sb : Nat) (S : Sk) (g : Nat) : Prop := ∃ G bb, (∀ k, F k ↔ k = sb ∨ ∃ b, G b k) ∧ PSkAt G bb w sb S fun _ => g

section
variable {G : Int → Nat → Prop} {bb : Int → Nat} {w w' : World} {sb : Nat} {S : Sk} {gb : Int → Nat}
theorem PSkAt.lt (h : PSkAt G bb w sb S gb) {b : Int} {k : Nat} (hk : G b k) : k < w.heap.size := by
  cases hr : S.R b with
  | true => exact (h.bk b hr).lt k hk
  | false => exact absurd hk (h.out b hr k)
theorem PSkAt.keptP {F : Nat → Prop} (h : PSkAt G bb w sb S gb) (hK : KeptP F w w') (hF : ∀ b k, F k → ¬ G b k) (hs : ¬ F sb) : PSkAt G bb w' sb S gb :=
  ⟨fun b hb => hK.old (h.c b hb) hs, fun b hb => by rw [hK.frozen (p := ⟨sb, b, none⟩) (cell_lt (h.c b hb)) hs]; exact h.f b hb, fun b hr => (h.bk b hr).keptP hK (hF b), h.out, h.apart, h.nsb⟩
theorem PSkAt.below (h : PSkAt G bb w sb S gb) (hB : Below w.heap.size w w') : PSkAt G bb w' sb S gb := h.keptP (F := fun _ => False) (KeptP.of_below hB) (fun _ _ g => g.elim) (fun g => g)
theorem PSkAt.drewN (h : PSkAt G bb w sb S gb) (n : Nat) : PSkAt G bb (w.drewN n) sb S gb := h.below (below_drewN (Below.refl _ _) n)
theorem PSkAt.base (h : PSkAt G bb w sb S gb) : sb < w.heap.size := cell_lt (h.c 0 (by omega))
/-- one baker turned -/
theorem PSkAt.turn (h : PSkAt G bb w sb S gb) {b : Int} (hr : S.R b = true) {G' : Nat → Prop} {P' : St} {W' : Int → St} {g' : Nat} (hB : Bkr G' w' (bb b) P' W' g') (hM : Moved (G b) G' w w')
    {S' : Sk} (hR : ∀ i, S'.R i = S.R i) (hP : S'.P b = P') (hW : S'.W b = W') (hPo : ∀ i, i ≠ b → S'.P i = S.P i) (hWo : ∀ i, i ≠ b → S'.W i = S.W i) : PSkAt (set1 G b G') bb w' sb S' (set1 gb b g') := by
  have ns : ¬ G b sb := fun g => h.nsb b sb g rfl
  have old : ∀ i k, set1 G b G' i k → G i k ∨ (i = b ∧ w.heap.size ≤ k) := fun i k g => by
    by_cases e : i = b
    · subst e
      rw [set1_same] at g
      rcases Nat.lt_or_ge k w.heap.size with l | l
      · exact .inl (hM.old k l g)
      · exact .inr ⟨rfl, l⟩
    · rw [set1_other _ _ _ _ e] at g
      exact .inl g
  refine ⟨fun i hi => ?_, fun i hi => ?_, fun i hi => ?_, fun i hi k g => ?_, fun i j k gi gj => ?_, fun i k g => ?_⟩
  · rw [hR]; exact hM.kept.old (h.c i hi) ns
  · rw [hM.kept.frozen (p := ⟨sb, i, none⟩) (cell_lt (h.c i hi)) ns]; exact h.f i hi
  · by_cases e : i = b
    · subst e
      rw [set1_same, set1_same, hP, hW]
      exact hB
    · rw [set1_other _ _ _ _ e, set1_other _ _ _ _ e, hPo i e, hWo i e]
      exact (h.bk i (by rw [← hR]; exact hi)).keptP hM.kept (fun k g g2 => e (h.apart i b k g2 g))
  · rw [hR] at hi
    rcases old i k g with l | ⟨e, _⟩
    · exact h.out i hi k l
    · rw [e, hr] at hi; cases hi
  · rcases old i k gi with l | ⟨e, l⟩ <;> rcases old j k gj with l2 | ⟨e2, l2⟩
    · exact h.apart i j k l l2
    · have := h.lt l; omega
    · have := h.lt l2; omega
    · rw [e, e2]
  · rcases old i k g with l | ⟨e, l⟩
    · exact h.nsb i k l
    · have := h.base; omega
end
/-- blocks of all bakers, and the stakes' own -/
def owns (G : Int → Nat → Prop) (sb : Nat) : Nat → Prop := fun k => k = sb ∨ ∃ b, G b k
theorem moved_turn {G : Int → Nat → Prop} {F : Nat → Prop} {sb : Nat} {w w' : World} (hf : ∀ k, F k ↔ k = sb ∨ ∃ b, G b k) {b : Int} {G' : Nat → Prop} (hM : Moved (G b) G' w w') : Moved F (owns (set1 G b G') sb) w w' := by
  refine ⟨hM.kept.mono fun k _ g => (hf k).2 (.inr ⟨b, g⟩), fun k hk g => (hf k).2 ?_⟩
  rcases g with e | ⟨i, g⟩
  · exact .inl e
  · refine .inr ⟨i, ?_⟩
    by_cases e : i = b
    · subst e
      rw [set1_same] at g
      exact hM.old k hk g
    · rw [set1_other _ _ _ _ e] at g
      exact g
theorem PSk.keptP {F G : Nat → Prop} {w w' : World} {sb g : Nat} {S : Sk} (h : PSk F w sb S g) (hK : KeptP G w w') (hF : ∀ k, G k → ¬ F k) : PSk F w' sb S g := by
  obtain ⟨Gs, bb, hf, h⟩ := h
  exact ⟨Gs, bb, hf, h.keptP hK (fun b k g g2 => hF k g ((hf k).2 (.inr ⟨b, g2⟩))) (fun g => hF sb g ((hf sb).2 (.inl rfl)))⟩
theorem PSk.lt {F : Nat → Prop} {w : World} {sb g : Nat} {S : Sk} (h : PSk F w sb S g) (k : Nat) (hk : F k) : k < w.heap.size := by
  obtain ⟨Gs, bb, hf, h⟩ := h
  rcases (hf k).1 hk with e | ⟨b, g⟩
  · rw [e]; exact h.base
  · exact h.lt g
theorem PSkAt.sk {G : Int → Nat → Prop} {bb : Int → Nat} {w : World} {sb g : Nat} {S : Sk} {gb : Int → Nat} (h : PSkAt G bb w sb S gb) (hg : ∀ b, gb b ≤ g) : PSk (owns G sb) w sb S g :=
  ⟨G, bb, fun _ => Iff.rfl, h.c, h.f, fun b hr => (h.bk b hr).more (hg b), h.out, h.apart, h.nsb⟩
theorem PSk.more {F : Nat → Prop} {w : World} {sb g g' : Nat} {S : Sk} (h : PSk F w sb S g) (hg : g ≤ g') : PSk F w sb S g' := by
  obtain ⟨G, bb, hf, h⟩ := h
  exact ⟨G, bb, hf, h.c, h.f, fun b hr => (h.bk b hr).more hg, h.out, h.apart, h.nsb⟩
end Go.Proofs.YtlhffdmhbplpjabDoor
