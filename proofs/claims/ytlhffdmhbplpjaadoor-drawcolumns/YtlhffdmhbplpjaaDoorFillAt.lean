/-
  The program's columns under way, as they lie in memory: what each thing that a round does makes of them.
-/
import Derived.Test.YtlhffdmhbplpjaaDoorQue
import Derived.Test.YtlhffdmhbplpjaaDoorProgDraw
namespace Go.Proofs.YtlhffdmhbplpjaaDoor
open Go.RowKit

/-- numbers of a row, as Go's -/
def ints (l : List Nat) : List Int := l.map (fun (x : Nat) => (x : Int))
theorem ints_len (l : List Nat) : (ints l).length = l.length := by simp [ints]
theorem ints_append (l : List Nat) (k : Nat) : ints (l ++ [k]) = ints l ++ [(k : Int)] := by simp [ints]
theorem ints_cons (k : Nat) (l : List Nat) : ints (k :: l) = (k : Int) :: ints l := rfl

/-- a column's two cells -/
def colv (line : Nat → Int) (other : Nat → Nat) (j : Nat) : Value := .int .i64 (if j % 2 = 0 then line (j / 2) else other (j / 2))

structure FillAt (w : World) (B n : Nat) (H : Int) (rest line : Nat → Int) (other : Nat → Nat) (sv gv : Value) (small great : List Nat) : Prop where
  h : w.heap[B]? = some (.cells #[.int .i64 H] 3 (0, 0))
  c : w.rowIs (B + 1) 116 (n * 2) (colv line other)
  r : w.rowIs (B + 2) 3 n (fun j => .int .i64 (rest j))
  v : w.heap[B + 3]? = some (.cells #[.slice (some ⟨B + 2, 0, none⟩) n n] 22 (0, 0))
  s : Que w 3 (B + 4) sv (ints small)
  g : Que w 3 (B + 4) gv (ints great)
  ne : ∀ k, sv.ownBlock = some k → gv.ownBlock ≠ some k

section
variable {w : World} {B n : Nat} {H : Int} {rest line : Nat → Int} {other : Nat → Nat} {sv gv : Value} {small great : List Nat}
theorem FillAt.size (h : FillAt w B n H rest line other sv gv small great) : B + 4 ≤ w.heap.size := by
  have := (Array.getElem?_eq_some_iff.1 h.v).1
  omega
theorem FillAt.cH (h : FillAt w B n H rest line other sv gv small great) : w.cell? ⟨B, 0, none⟩ = some (.int .i64 H) := by simp [World.cell?, h.h]
theorem FillAt.cV (h : FillAt w B n H rest line other sv gv small great) : w.cell? ⟨B + 3, 0, none⟩ = some (.slice (some ⟨B + 2, 0, none⟩) n n) := by simp [World.cell?, h.v]
theorem FillAt.cR (h : FillAt w B n H rest line other sv gv small great) {k : Nat} (hk : k < n) : w.cell? ⟨B + 2, k, none⟩ = some (.int .i64 (rest k)) := h.r.cell hk
theorem FillAt.fR (h : FillAt w B n H rest line other sv gv small great) (k : Nat) : w.frozen? ⟨B + 2, k, none⟩ = false := h.r.frozen k
theorem FillAt.cL (h : FillAt w B n H rest line other sv gv small great) {k : Nat} (hk : k < n) : w.cell? ⟨B + 1, k * 2, none⟩ = some (.int .i64 (line k)) := by
  rw [h.c.cell (show k * 2 < n * 2 by omega)]
  have e1 : k * 2 % 2 = 0 := by omega
  have e2 : k * 2 / 2 = k := by omega
  simp [colv, e1, e2]
theorem FillAt.cO (h : FillAt w B n H rest line other sv gv small great) {k : Nat} (hk : k < n) : w.cell? ⟨B + 1, k * 2 + 1, none⟩ = some (.int .i64 (other k)) := by
  rw [h.c.cell (show k * 2 + 1 < n * 2 by omega)]
  have e2 : (k * 2 + 1) / 2 = k := by omega
  simp [colv, e2]
theorem FillAt.fC (h : FillAt w B n H rest line other sv gv small great) (k : Nat) : w.frozen? ⟨B + 1, k, none⟩ = false := h.c.frozen k
theorem FillAt.drewN (h : FillAt w B n H rest line other sv gv small great) (m : Nat) : FillAt (w.drewN m) B n H rest line other sv gv small great := ⟨h.h, h.c, h.r, h.v, h.s, h.g, h.ne⟩
theorem FillAt.drew (h : FillAt w B n H rest line other sv gv small great) : FillAt w.drew B n H rest line other sv gv small great := ⟨h.h, h.c, h.r, h.v, h.s, h.g, h.ne⟩
theorem que_off {e : TypeId} {base : Nat} {v : Value} {xs : List Int} (h : Que w e base v xs) {b : Nat} (hb : b < base) : v.ownBlock ≠ some b := fun g => by have := (h.lt b g).1; omega
/-- a store into the rests -/
theorem FillAt.setR (h : FillAt w B n H rest line other sv gv small great) (k : Nat) (x : Int) : FillAt (w.setCell ⟨B + 2, k, none⟩ (.int .i64 x)) B n H (upd rest k x) line other sv gv small great where
  h := (Below.heap_setCell _ _ _ _ (by simp)).trans h.h
  c := h.c.setOther (by simp) _
  r := (h.r.set k _).congr (fun i _ => by
    show (if i = k then Value.int .i64 x else .int .i64 (rest i)) = .int .i64 (upd rest k x i)
    unfold upd; split <;> rfl)
  v := (Below.heap_setCell _ _ _ _ (by simp)).trans h.v
  s := h.s.setCell _ _ (que_off h.s (by simp))
  g := h.g.setCell _ _ (que_off h.g (by simp))
  ne := h.ne
/-- a store into a column -/
theorem FillAt.setC (h : FillAt w B n H rest line other sv gv small great) (k : Nat) (x : Int) (o : Nat) : FillAt ((w.setCell ⟨B + 1, k * 2, none⟩ (.int .i64 x)).setCell ⟨B + 1, k * 2 + 1, none⟩ (.int .i64 o)) B n H rest (upd line k x) (upd other k o) sv gv small great where
  h := ((Below.heap_setCell _ _ _ _ (by simp)).trans (Below.heap_setCell _ _ _ _ (by simp))).trans h.h
  c := ((h.c.set (k * 2) _).set (k * 2 + 1) _).congr (fun i _ => by
    show (if i = k * 2 + 1 then Value.int .i64 o else if i = k * 2 then .int .i64 x else colv line other i) = colv (upd line k x) (upd other k o) i
    unfold colv upd
    by_cases e1 : i = k * 2 + 1
    · subst e1
      have e2 : (k * 2 + 1) / 2 = k := by omega
      simp [e2]
    · rw [if_neg e1]
      by_cases e3 : i = k * 2
      · subst e3
        have e4 : k * 2 % 2 = 0 := by omega
        have e5 : k * 2 / 2 = k := by omega
        simp [e4, e5]
      · rw [if_neg e3]
        have e6 : ¬ i / 2 = k := by omega
        simp [e6])
  r := (h.r.setOther (by simp) _).setOther (by simp) _
  v := ((Below.heap_setCell _ _ _ _ (by simp)).trans (Below.heap_setCell _ _ _ _ (by simp))).trans h.v
  s := (h.s.setCell _ _ (que_off h.s (by simp))).setCell _ _ (que_off h.s (by simp))
  g := (h.g.setCell _ _ (que_off h.g (by simp))).setCell _ _ (que_off h.g (by simp))
  ne := h.ne
theorem FillAt.alloc (h : FillAt w B n H rest line other sv gv small great) (o : Obj) : FillAt (w.alloc o) B n H rest line other sv gv small great where
  h := (Below.heap_alloc _ _ _ (Array.getElem?_eq_some_iff.1 h.h).1).trans h.h
  c := h.c.alloc o
  r := h.r.alloc o
  v := (Below.heap_alloc _ _ _ (Array.getElem?_eq_some_iff.1 h.v).1).trans h.v
  s := h.s.alloc o
  g := h.g.alloc o
  ne := h.ne
/-- one more among the small ones -/
theorem FillAt.pushS {w' : World} {sv' : Value} {k : Nat} (h : FillAt w B n H rest line other sv gv small great) (hq : Que w' 3 (B + 4) sv' (ints small ++ [(k : Int)])) (hg : w.grownBy w' sv.ownBlock)
    (ho : sv'.ownBlock = sv.ownBlock ∨ ∃ k, sv'.ownBlock = some k ∧ w.heap.size ≤ k) : FillAt w' B n H rest line other sv' gv (small ++ [k]) great := by
  have hs := h.size
  have off : ∀ b, b < B + 4 → some b ≠ sv.ownBlock := fun b hb e => que_off h.s hb e.symm
  exact {
    h := (hg.block B (by omega) (off B (by omega))).trans h.h
    c := h.c.of_block (hg.block _ (by omega) (off _ (by omega)))
    r := h.r.of_block (hg.block _ (by omega) (off _ (by omega)))
    v := (hg.block _ (by omega) (off _ (by omega))).trans h.v
    s := by rw [ints_append]; exact hq
    g := h.g.grown hg (fun k hk e => h.ne k e.symm hk)
    ne := fun j hj hk => by
      rcases ho with e | ⟨i, e, hi⟩
      · exact h.ne j (e.symm.trans hj) hk
      · obtain rfl := Option.some.inj (e.symm.trans hj)
        have := (h.g.lt i hk).2
        omega }
/-- one more among the great ones -/
theorem FillAt.pushG {w' : World} {gv' : Value} {k : Nat} (h : FillAt w B n H rest line other sv gv small great) (hq : Que w' 3 (B + 4) gv' (ints great ++ [(k : Int)])) (hg : w.grownBy w' gv.ownBlock)
    (ho : gv'.ownBlock = gv.ownBlock ∨ ∃ k, gv'.ownBlock = some k ∧ w.heap.size ≤ k) : FillAt w' B n H rest line other sv gv' small (great ++ [k]) := by
  have hs := h.size
  have off : ∀ b, b < B + 4 → some b ≠ gv.ownBlock := fun b hb e => que_off h.g hb e.symm
  exact {
    h := (hg.block B (by omega) (off B (by omega))).trans h.h
    c := h.c.of_block (hg.block _ (by omega) (off _ (by omega)))
    r := h.r.of_block (hg.block _ (by omega) (off _ (by omega)))
    v := (hg.block _ (by omega) (off _ (by omega))).trans h.v
    s := h.s.grown hg (fun k hk e => h.ne k hk e.symm)
    g := by rw [ints_append]; exact hq
    ne := fun j hj hk => by
      rcases ho with e | ⟨i, e, hi⟩
      · exact h.ne j hj (e.symm.trans hk)
      · obtain rfl := Option.some.inj (e.symm.trans hk)
        have := (h.s.lt i hj).2
        omega }
theorem FillAt.as {rest' line' : Nat → Int} {other' : Nat → Nat} (h : FillAt w B n H rest line other sv gv small great) (e1 : ∀ k, k < n → rest k = rest' k) (e2 : ∀ k, k < n → line k = line' k) (e3 : ∀ k, k < n → other k = other' k) :
    FillAt w B n H rest' line' other' sv gv small great where
  h := h.h
  c := h.c.congr (fun i hi => by unfold colv; rw [e2 (i / 2) (by omega), e3 (i / 2) (by omega)])
  r := h.r.congr (fun i hi => by rw [e1 i hi])
  v := h.v
  s := h.s
  g := h.g
  ne := h.ne
end

theorem Tryd.elemInts : Tryd.prog.elem 22 = 3 := by kernel_rfl
theorem sizeInt (w : World) : (sizeOf 3).run Tryd.prog w = .ok 1 w := by kernel_rfl
/-- cut at its front, as the program cuts -/
theorem run_cut (w : World) (b o m cap : Nat) (h0 : 1 ≤ m) :
    (Instr.slice 22 (.slice (some ⟨b, o, none⟩) m cap) (some (.int .i64 1)) none none).run Tryd.prog w = .ok (.slice (if cap = 1 then some ⟨b, o, none⟩ else some ⟨b, o + 1, none⟩) (m - 1) (cap - 1)) w := by
  rw [run_slice_l (P := Tryd.prog) w 22 (some ⟨b, o, none⟩) m cap (by rw [Tryd.elemInts]; exact Tryd.underlying22) .i64 1 (by omega) (by omega), Tryd.elemInts, sizeInt]
  show Result.ok (sliced (some ⟨b, o, none⟩) 1 m cap 1) w = _
  unfold sliced
  simp [add_plain]
/-- the first of a row, and the row without it -/
theorem Que.cut {w : World} {base : Nat} {v : Value} {x : Int} {xs : List Int} (h : Que w 3 base v (x :: xs)) :
    ∃ b o m cap v', v = .slice (some ⟨b, o, none⟩) m cap ∧ m = xs.length + 1 ∧ m ≤ cap ∧ cap ≤ maxLen ∧ base ≤ b ∧ b < w.heap.size ∧ w.cell? ⟨b, o, none⟩ = some (.int .i64 x) ∧
      (∀ w' : World, (Instr.slice 22 v (some (.int .i64 1)) none none).run Tryd.prog w' = .ok v' w') ∧ v'.ownBlock = some b ∧ (∀ w', Que w' 3 base v (x :: xs) → Que w' 3 base v' xs) ∧ ∃ a, v' = .slice a xs.length (cap - 1) := by
  obtain ⟨b, o, cap, rfl, h1, h2, h3, h4, h5⟩ := h.at (by simp)
  have c0 := h5 0 x rfl
  rw [Nat.add_zero] at c0
  refine ⟨b, o, xs.length + 1, cap, .slice (if cap = 1 then some ⟨b, o, none⟩ else some ⟨b, o + 1, none⟩) xs.length (cap - 1), rfl, rfl, h3, h4, h1, h2, c0, fun w' => ?_, ?_, fun w' hq => hq.tail, _, rfl⟩
  · exact run_cut w' b o (xs.length + 1) cap (by omega)
  · split <;> rfl
section
variable {w : World} {B n : Nat} {H : Int} {rest line : Nat → Int} {other : Nat → Nat} {sv gv : Value} {small great : List Nat}
theorem FillAt.cutS {s : Nat} {ss : List Nat} {sv' : Value} (h : FillAt w B n H rest line other sv gv (s :: ss) great) (hc : ∀ w', Que w' 3 (B + 4) sv ((s : Int) :: ints ss) → Que w' 3 (B + 4) sv' (ints ss)) (ho : sv'.ownBlock = sv.ownBlock) :
    FillAt w B n H rest line other sv' gv ss great := ⟨h.h, h.c, h.r, h.v, hc w h.s, h.g, fun k hk => h.ne k (ho.symm.trans hk)⟩
theorem FillAt.cutG {g : Nat} {gs : List Nat} {gv' : Value} (h : FillAt w B n H rest line other sv gv small (g :: gs)) (hc : ∀ w', Que w' 3 (B + 4) gv ((g : Int) :: ints gs) → Que w' 3 (B + 4) gv' (ints gs)) (ho : gv'.ownBlock = gv.ownBlock) :
    FillAt w B n H rest line other sv gv' small gs := ⟨h.h, h.c, h.r, h.v, h.s, hc w h.g, fun k hk hk' => h.ne k hk (ho.symm.trans hk')⟩
end
end Go.Proofs.YtlhffdmhbplpjaaDoor
