/-
  Purses, plainly: what each of six owners may spend, and the supply.
-/
namespace Go.Proofs.YtamjnkjgdaojiaaDoor

structure Pu where
  s : Int → Int
  S : Int
def Pu.sum (x : Pu) : Int := x.s 0 + x.s 1 + x.s 2 + x.s 3 + x.s 4 + x.s 5
/-- a function with one value set -/
def put (f : Int → Int) (o v : Int) : Int → Int := fun i => if i = o then v else f i
theorem put_same (f : Int → Int) (o v : Int) : put f o v o = v := if_pos rfl
theorem put_other (f : Int → Int) (o v i : Int) (h : i ≠ o) : put f o v i = f i := if_neg h
theorem sum_put (x : Pu) (S : Int) (o v : Int) (h : 0 ≤ o ∧ o < 6) : (Pu.mk (put x.s o v) S).sum = x.sum - x.s o + v := by
  have : o = 0 ∨ o = 1 ∨ o = 2 ∨ o = 3 ∨ o = 4 ∨ o = 5 := by omega
  unfold Pu.sum put
  rcases this with rfl | rfl | rfl | rfl | rfl | rfl <;> simp <;> omega
structure Pu.Ok (x : Pu) : Prop where
  pos : ∀ o, 0 ≤ x.s o
  out : ∀ o, ¬ (0 ≤ o ∧ o < 6) → x.s o = 0
  le : x.sum ≤ x.S
  top : x.S ≤ 1125899906842624
theorem Pu.Ok.sum0 {x : Pu} (h : x.Ok) : 0 ≤ x.sum := by
  have h0 := h.pos 0
  have h1 := h.pos 1
  have h2 := h.pos 2
  have h3 := h.pos 3
  have h4 := h.pos 4
  have h5 := h.pos 5
  unfold Pu.sum; omega
theorem Pu.Ok.one {x : Pu} (h : x.Ok) (o : Int) : x.s o ≤ x.sum := by
  have h0 := h.pos 0
  have h1 := h.pos 1
  have h2 := h.pos 2
  have h3 := h.pos 3
  have h4 := h.pos 4
  have h5 := h.pos 5
  by_cases g : 0 ≤ o ∧ o < 6
  · have : o = 0 ∨ o = 1 ∨ o = 2 ∨ o = 3 ∨ o = 4 ∨ o = 5 := by omega
    unfold Pu.sum
    rcases this with rfl | rfl | rfl | rfl | rfl | rfl <;> omega
  · rw [h.out o g]; exact h.sum0
theorem Pu.Ok.two {x : Pu} (h : x.Ok) (o p : Int) (ne : o ≠ p) : x.s o + x.s p ≤ x.sum := by
  have h0 := h.pos 0
  have h1 := h.pos 1
  have h2 := h.pos 2
  have h3 := h.pos 3
  have h4 := h.pos 4
  have h5 := h.pos 5
  by_cases g : 0 ≤ o ∧ o < 6
  · by_cases k : 0 ≤ p ∧ p < 6
    · have a : o = 0 ∨ o = 1 ∨ o = 2 ∨ o = 3 ∨ o = 4 ∨ o = 5 := by omega
      have b : p = 0 ∨ p = 1 ∨ p = 2 ∨ p = 3 ∨ p = 4 ∨ p = 5 := by omega
      unfold Pu.sum
      rcases a with rfl | rfl | rfl | rfl | rfl | rfl <;> rcases b with rfl | rfl | rfl | rfl | rfl | rfl <;> omega
    · rw [h.out p k]; have := h.one o; omega
  · rw [h.out o g]; have := h.one p; omega

/-- an amount; an owner -/
def Amt (n : Int) : Prop := 0 ≤ n ∧ n ≤ 1125899906842624
def Own (o : Int) : Prop := 0 ≤ o ∧ o < 6
instance (n : Int) : Decidable (Amt n) := inferInstanceAs (Decidable (_ ∧ _))
instance (n : Int) : Decidable (Own n) := inferInstanceAs (Decidable (_ ∧ _))
def none' : Pu := ⟨fun _ => 0, 0⟩
theorem none_ok : none'.Ok := ⟨fun _ => Int.le_refl _, fun _ _ => rfl, by decide, by decide⟩

/-! what is done, and its error's number -/
def Pu.growC (x : Pu) (n : Int) : Int := if Amt n ∧ x.S + n ≤ 1125899906842624 then 0 else 2
def Pu.grow (x : Pu) (n : Int) : Pu := if x.growC n = 0 then ⟨x.s, x.S + n⟩ else x
def Pu.mintC (x : Pu) (o n : Int) : Int := if Own o ∧ Amt n ∧ x.S + n ≤ 1125899906842624 then 0 else 2
def Pu.mint (x : Pu) (o n : Int) : Pu := if x.mintC o n = 0 then ⟨put x.s o (x.s o + n), x.S + n⟩ else x
def Pu.burnC (x : Pu) (n : Int) : Int := if ¬ Amt n then 2 else if x.S - x.sum < n then 6 else 0
def Pu.burn (x : Pu) (n : Int) : Pu := if x.burnC n = 0 then ⟨x.s, x.S - n⟩ else x
def Pu.outC (x : Pu) (o n : Int) : Int := if ¬ (Own o ∧ Amt n) then 2 else if x.s o < n then 6 else 0
def Pu.out (x : Pu) (o n : Int) : Pu := if x.outC o n = 0 then ⟨put x.s o (x.s o - n), x.S⟩ else x
def Pu.inC (x : Pu) (o n : Int) : Int := if ¬ (Own o ∧ Amt n) then 2 else if x.S - x.sum < n then 6 else 0
def Pu.in' (x : Pu) (o n : Int) : Pu := if x.inC o n = 0 then ⟨put x.s o (x.s o + n), x.S⟩ else x
def Pu.moveC (x : Pu) (o p n : Int) : Int := if ¬ (Own o ∧ Own p ∧ Amt n) then 2 else if x.s o < n then 6 else 0
def Pu.move (x : Pu) (o p n : Int) : Pu := if x.moveC o p n = 0 then ⟨put (put x.s o (x.s o - n)) p (put x.s o (x.s o - n) p + n), x.S⟩ else x

theorem Pu.Ok.putOk {x : Pu} (h : x.Ok) (o v S : Int) (ho : Own o) (hv : 0 ≤ v) (hS : x.sum - x.s o + v ≤ S) (hT : S ≤ 1125899906842624) : (Pu.mk (put x.s o v) S).Ok where
  pos := fun i => by
    show 0 ≤ put x.s o v i
    unfold put; split
    · exact hv
    · exact h.pos i
  out := fun i hi => by
    show put x.s o v i = 0
    rw [put_other _ _ _ _ (fun e => hi (by rw [e]; exact ho))]; exact h.out i hi
  le := by rw [sum_put x S o v ho]; exact hS
  top := hT
theorem Pu.Ok.grow {x : Pu} (h : x.Ok) (n : Int) : (x.grow n).Ok := by
  unfold Pu.grow Pu.growC
  by_cases g : Amt n ∧ x.S + n ≤ 1125899906842624
  · rw [if_pos g, if_pos rfl]
    exact ⟨h.pos, h.out, by have := h.le; have := g.1.1; show x.sum ≤ x.S + n; omega, g.2⟩
  · rw [if_neg g, if_neg (by decide)]; exact h
theorem Pu.Ok.mint {x : Pu} (h : x.Ok) (o n : Int) : (x.mint o n).Ok := by
  unfold Pu.mint Pu.mintC
  by_cases g : Own o ∧ Amt n ∧ x.S + n ≤ 1125899906842624
  · rw [if_pos g, if_pos rfl]
    have := h.pos o
    have := h.le
    have := g.2.1.1
    exact h.putOk o _ _ g.1 (by omega) (by omega) g.2.2
  · rw [if_neg g, if_neg (by decide)]; exact h
theorem Pu.Ok.burn {x : Pu} (h : x.Ok) (n : Int) : (x.burn n).Ok := by
  unfold Pu.burn Pu.burnC
  by_cases g : Amt n
  · rw [if_neg (show ¬ ¬ Amt n from fun k => k g)]
    by_cases k : x.S - x.sum < n
    · rw [if_pos k, if_neg (by decide)]; exact h
    · rw [if_neg k, if_pos rfl]
      have := h.top
      have := g.1
      exact ⟨h.pos, h.out, by show x.sum ≤ x.S - n; omega, by show x.S - n ≤ _; omega⟩
  · rw [if_pos g, if_neg (by decide)]; exact h
theorem Pu.Ok.out' {x : Pu} (h : x.Ok) (o n : Int) : (x.out o n).Ok := by
  unfold Pu.out Pu.outC
  by_cases g : Own o ∧ Amt n
  · rw [if_neg (show ¬ ¬ (Own o ∧ Amt n) from fun k => k g)]
    by_cases k : x.s o < n
    · rw [if_pos k, if_neg (by decide)]; exact h
    · rw [if_neg k, if_pos rfl]
      have := h.le
      have := g.2.1
      exact h.putOk o _ _ g.1 (by omega) (by omega) h.top
  · rw [if_pos g, if_neg (by decide)]; exact h
theorem Pu.Ok.in' {x : Pu} (h : x.Ok) (o n : Int) : (x.in' o n).Ok := by
  unfold Pu.in' Pu.inC
  by_cases g : Own o ∧ Amt n
  · rw [if_neg (show ¬ ¬ (Own o ∧ Amt n) from fun k => k g)]
    by_cases k : x.S - x.sum < n
    · rw [if_pos k, if_neg (by decide)]; exact h
    · rw [if_neg k, if_pos rfl]
      have := h.pos o
      have := g.2.1
      exact h.putOk o _ _ g.1 (by omega) (by omega) h.top
  · rw [if_pos g, if_neg (by decide)]; exact h
theorem Pu.Ok.move {x : Pu} (h : x.Ok) (o p n : Int) : (x.move o p n).Ok := by
  unfold Pu.move Pu.moveC
  by_cases g : Own o ∧ Own p ∧ Amt n
  · rw [if_neg (show ¬ ¬ (Own o ∧ Own p ∧ Amt n) from fun k => k g)]
    by_cases k : x.s o < n
    · rw [if_pos k, if_neg (by decide)]; exact h
    · rw [if_neg k, if_pos rfl]
      have hle := h.le
      have hn := g.2.2.1
      have h1 : (Pu.mk (put x.s o (x.s o - n)) x.S).Ok := h.putOk o _ _ g.1 (by omega) (by omega) h.top
      have e1 := sum_put x x.S o (x.s o - n) g.1
      have hp := h1.pos p
      exact h1.putOk p _ _ g.2.1 (by show 0 ≤ put x.s o (x.s o - n) p + n; have : 0 ≤ put x.s o (x.s o - n) p := hp; omega) (by rw [e1]; show _ - put x.s o (x.s o - n) p + (put x.s o (x.s o - n) p + n) ≤ _; omega) h.top
  · rw [if_pos g, if_neg (by decide)]; exact h
end Go.Proofs.YtamjnkjgdaojiaaDoor
