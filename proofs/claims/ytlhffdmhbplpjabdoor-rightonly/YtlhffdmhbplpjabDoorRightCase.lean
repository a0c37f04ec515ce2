/-
  Weights that are none, as a slice has them; errors with their places.
-/
import Derived.Test.YtlhffdmhbplpjabDoorRightMath
import Derived.Test.YtlhffdmhbplpjabDoorProgDraw
namespace Go.Proofs.YtlhffdmhbplpjabDoor
open Go.RowKit

/-- what is wrong with weights: an error's number and place -/
inductive WCase (w : World) (v : Value) : Int → Int → Prop
  | shape (a : Option Addr) (n cap : Nat) (h : n = 0 ∨ 64 < n) (hm : n ≤ 9223372036854775807) (e : v = .slice a n cap) : WCase w v 3 (-1)
  | bad (b off n cap k0 : Nat) (W : Nat → Int) (hI : Ints w b off n W) (hb : b < w.heap.size) (n1 : 1 ≤ n) (n64 : n ≤ 64) (hk0 : k0 < n) (hG : ∀ i, i < k0 → WOk (W i)) (hbad : ¬ WOk (W k0)) (e : v = .slice (some ⟨b, off, none⟩) n cap) : WCase w v 2 k0
  | none (b off n cap : Nat) (W : Nat → Int) (hI : Ints w b off n W) (hb : b < w.heap.size) (hW : Weights n W) (h0 : sumTo W n = 0) (e : v = .slice (some ⟨b, off, none⟩) n cap) : WCase w v 4 (-1)
theorem WCase.below {w w' : World} {v : Value} {z p : Int} (h : WCase w v z p) (hB : Below w.heap.size w w') : WCase w' v z p := by
  cases h with
  | shape a n cap h hm e => exact .shape a n cap h hm e
  | bad b off n cap k0 W hI hb n1 n64 hk0 hG hbad e => exact .bad b off n cap k0 W (hI.below hB hb) (Nat.lt_of_lt_of_le hb hB.size) n1 n64 hk0 hG hbad e
  | none b off n cap W hI hb hW h0 e => exact .none b off n cap W (hI.below hB hb) (Nat.lt_of_lt_of_le hb hB.size) hW h0 e
theorem WCase.pos {w : World} {v : Value} {z p : Int} (h : WCase w v z p) : 0 < z := by cases h <;> decide
/-- an error's value: bare, or a new fault with its place -/
def ErrAt (B : Nat) (w : World) (A : Nat → Addr) (e : Value) (z p : Int) : Prop := (∃ i : Nat, i < 10 ∧ z = i + 1 ∧ p = -1 ∧ e = sent (A i)) ∨ ∃ m i : Nat, B ≤ m ∧ i < 10 ∧ z = i + 1 ∧ e = fault m ∧ w.cell? ⟨m, 0, none⟩ = some (.int .i64 p) ∧ w.cell? ⟨m, 1, none⟩ = some (sent (A i))
theorem ErrAt.below {B : Nat} {w w' : World} {A : Nat → Addr} {e : Value} {z p : Int} (h : ErrAt B w A e z p) (hB : Below w.heap.size w w') : ErrAt B w' A e z p := by
  rcases h with h | ⟨m, i, hm, hi, hz, he, c0, c1⟩
  · exact .inl h
  · exact .inr ⟨m, i, hm, hi, hz, he, draw_old hB c0, draw_old hB c1⟩
theorem ErrAt.setCell {B : Nat} {w : World} {A : Nat → Addr} {e : Value} {z p : Int} (h : ErrAt B w A e z p) {q : Addr} (hq : q.block < B) (u : Value) : ErrAt B (w.setCell q u) A e z p := by
  rcases h with h | ⟨m, i, hm, hi, hz, he, c0, c1⟩
  · exact .inl h
  · exact .inr ⟨m, i, hm, hi, hz, he, by rw [World.cell?_setCell_other _ _ _ _ (fun e => by rw [e] at hq; exact absurd hq (Nat.not_lt.2 hm))]; exact c0, by rw [World.cell?_setCell_other _ _ _ _ (fun e => by rw [e] at hq; exact absurd hq (Nat.not_lt.2 hm))]; exact c1⟩
end Go.Proofs.YtlhffdmhbplpjabDoor
