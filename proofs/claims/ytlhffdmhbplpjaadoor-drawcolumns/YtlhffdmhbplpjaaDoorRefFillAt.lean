/-
  The document's columns under way, as they lie in memory: what each thing that a round does makes of them.
-/
import Derived.Test.YtlhffdmhbplpjaaDoorProgNew
namespace Go.Proofs.YtlhffdmhbplpjaaDoor
open Go.RowKit Go.Deep

/-- the draw's own three cells -/
def ownv (H : Int) (L O n j : Nat) : Value := if j = 0 then .int .i64 H else if j = 1 then .slice (some ⟨L, 0, none⟩) n n else .slice (some ⟨O, 0, none⟩) n n
/-- blocks of which each is another -/
structure Apart (D L O R base : Nat) : Prop where
  dl : D ≠ L
  d' : D ≠ O
  dr : D ≠ R
  lo : L ≠ O
  lr : L ≠ R
  or' : O ≠ R
  bd : D < base ∧ L < base ∧ O < base ∧ R < base
structure RefFill (w : World) (D L O R base n : Nat) (H : Int) (rest line : Nat → Int) (other : Nat → Nat) (sv gv : Value) (small great : List Nat) : Prop where
  h : w.rowIs D 78 3 (ownv H L O n)
  l : w.rowIs L 3 n (fun j => .int .i64 (line j))
  o : w.rowIs O 3 n (fun j => .int .i64 (other j))
  r : w.rowIs R 3 n (fun j => .int .i64 (rest j))
  s : Que w 3 base sv (ints small)
  g : Que w 3 base gv (ints great)
  ne : ∀ k, sv.ownBlock = some k → gv.ownBlock ≠ some k

section
variable {w : World} {D L O R base n : Nat} {H : Int} {rest line : Nat → Int} {other : Nat → Nat} {sv gv : Value} {small great : List Nat}
theorem RefFill.cH (h : RefFill w D L O R base n H rest line other sv gv small great) : w.cell? ⟨D, 0, none⟩ = some (.int .i64 H) := h.h.cell (by omega)
theorem RefFill.cL (h : RefFill w D L O R base n H rest line other sv gv small great) : w.cell? ⟨D, 1, none⟩ = some (.slice (some ⟨L, 0, none⟩) n n) := h.h.cell (by omega)
theorem RefFill.cO (h : RefFill w D L O R base n H rest line other sv gv small great) : w.cell? ⟨D, 2, none⟩ = some (.slice (some ⟨O, 0, none⟩) n n) := h.h.cell (by omega)
theorem RefFill.drewN (h : RefFill w D L O R base n H rest line other sv gv small great) (m : Nat) : RefFill (w.drewN m) D L O R base n H rest line other sv gv small great := ⟨h.h, h.l, h.o, h.r, h.s, h.g, h.ne⟩
theorem RefFill.drew (h : RefFill w D L O R base n H rest line other sv gv small great) : RefFill w.drew D L O R base n H rest line other sv gv small great := ⟨h.h, h.l, h.o, h.r, h.s, h.g, h.ne⟩
theorem RefFill.setH (h : RefFill w D L O R base n H rest line other sv gv small great) (a : Apart D L O R base) (x : Int) : RefFill (w.setCell ⟨D, 0, none⟩ (.int .i64 x)) D L O R base n x rest line other sv gv small great where
  h := (h.h.set 0 _).congr (fun i _ => by
    show (if i = 0 then Value.int .i64 x else ownv H L O n i) = ownv x L O n i
    unfold ownv; split <;> rfl)
  l := h.l.setOther (fun e => a.dl e.symm) _
  o := h.o.setOther (fun e => a.d' e.symm) _
  r := h.r.setOther (fun e => a.dr e.symm) _
  s := h.s.setCell _ _ (que_off h.s a.bd.1)
  g := h.g.setCell _ _ (que_off h.g a.bd.1)
  ne := h.ne
theorem RefFill.setR (h : RefFill w D L O R base n H rest line other sv gv small great) (a : Apart D L O R base) (k : Nat) (x : Int) : RefFill (w.setCell ⟨R, k, none⟩ (.int .i64 x)) D L O R base n H (upd rest k x) line other sv gv small great where
  h := h.h.setOther a.dr _
  l := h.l.setOther a.lr _
  o := h.o.setOther a.or' _
  r := (h.r.set k _).congr (fun i _ => by
    show (if i = k then Value.int .i64 x else .int .i64 (rest i)) = .int .i64 (upd rest k x i)
    unfold upd; split <;> rfl)
  s := h.s.setCell _ _ (que_off h.s a.bd.2.2.2)
  g := h.g.setCell _ _ (que_off h.g a.bd.2.2.2)
  ne := h.ne
theorem RefFill.setL (h : RefFill w D L O R base n H rest line other sv gv small great) (a : Apart D L O R base) (k : Nat) (x : Int) : RefFill (w.setCell ⟨L, k, none⟩ (.int .i64 x)) D L O R base n H rest (upd line k x) other sv gv small great where
  h := h.h.setOther a.dl _
  l := (h.l.set k _).congr (fun i _ => by
    show (if i = k then Value.int .i64 x else .int .i64 (line i)) = .int .i64 (upd line k x i)
    unfold upd; split <;> rfl)
  o := h.o.setOther (fun e => a.lo e.symm) _
  r := h.r.setOther (fun e => a.lr e.symm) _
  s := h.s.setCell _ _ (que_off h.s a.bd.2.1)
  g := h.g.setCell _ _ (que_off h.g a.bd.2.1)
  ne := h.ne
theorem RefFill.setO (h : RefFill w D L O R base n H rest line other sv gv small great) (a : Apart D L O R base) (k x : Nat) : RefFill (w.setCell ⟨O, k, none⟩ (.int .i64 x)) D L O R base n H rest line (upd other k x) sv gv small great where
  h := h.h.setOther a.d' _
  l := h.l.setOther a.lo _
  o := (h.o.set k _).congr (fun i _ => by
    show (if i = k then Value.int .i64 (x : Int) else .int .i64 (other i)) = .int .i64 ((upd other k x i : Nat) : Int)
    unfold upd; split <;> rfl)
  r := h.r.setOther (fun e => a.or' e.symm) _
  s := h.s.setCell _ _ (que_off h.s a.bd.2.2.1)
  g := h.g.setCell _ _ (que_off h.g a.bd.2.2.1)
  ne := h.ne
theorem RefFill.alloc (h : RefFill w D L O R base n H rest line other sv gv small great) (x : Obj) : RefFill (w.alloc x) D L O R base n H rest line other sv gv small great :=
  ⟨h.h.alloc x, h.l.alloc x, h.o.alloc x, h.r.alloc x, h.s.alloc x, h.g.alloc x, h.ne⟩
theorem RefFill.pushS {w' : World} {sv' : Value} {k : Nat} (h : RefFill w D L O R base n H rest line other sv gv small great) (a : Apart D L O R base) (hq : Que w' 3 base sv' (ints small ++ [(k : Int)])) (hg : w.grownBy w' sv.ownBlock)
    (ho : sv'.ownBlock = sv.ownBlock ∨ ∃ k, sv'.ownBlock = some k ∧ w.heap.size ≤ k) : RefFill w' D L O R base n H rest line other sv' gv (small ++ [k]) great := by
  have off : ∀ b, b < base → some b ≠ sv.ownBlock := fun b hb e => que_off h.s hb e.symm
  exact {
    h := h.h.of_block (hg.block _ h.h.lt (off _ a.bd.1))
    l := h.l.of_block (hg.block _ h.l.lt (off _ a.bd.2.1))
    o := h.o.of_block (hg.block _ h.o.lt (off _ a.bd.2.2.1))
    r := h.r.of_block (hg.block _ h.r.lt (off _ a.bd.2.2.2))
    s := by rw [ints_append]; exact hq
    g := h.g.grown hg (fun k hk e => h.ne k e.symm hk)
    ne := fun j hj hk => by
      rcases ho with e | ⟨i, e, hi⟩
      · exact h.ne j (e.symm.trans hj) hk
      · obtain rfl := Option.some.inj (e.symm.trans hj)
        have := (h.g.lt i hk).2
        omega }
theorem RefFill.pushG {w' : World} {gv' : Value} {k : Nat} (h : RefFill w D L O R base n H rest line other sv gv small great) (a : Apart D L O R base) (hq : Que w' 3 base gv' (ints great ++ [(k : Int)])) (hg : w.grownBy w' gv.ownBlock)
    (ho : gv'.ownBlock = gv.ownBlock ∨ ∃ k, gv'.ownBlock = some k ∧ w.heap.size ≤ k) : RefFill w' D L O R base n H rest line other sv gv' small (great ++ [k]) := by
  have off : ∀ b, b < base → some b ≠ gv.ownBlock := fun b hb e => que_off h.g hb e.symm
  exact {
    h := h.h.of_block (hg.block _ h.h.lt (off _ a.bd.1))
    l := h.l.of_block (hg.block _ h.l.lt (off _ a.bd.2.1))
    o := h.o.of_block (hg.block _ h.o.lt (off _ a.bd.2.2.1))
    r := h.r.of_block (hg.block _ h.r.lt (off _ a.bd.2.2.2))
    s := h.s.grown hg (fun k hk e => h.ne k hk e.symm)
    g := by rw [ints_append]; exact hq
    ne := fun j hj hk => by
      rcases ho with e | ⟨i, e, hi⟩
      · exact h.ne j hj (e.symm.trans hk)
      · obtain rfl := Option.some.inj (e.symm.trans hk)
        have := (h.s.lt i hj).2
        omega }
theorem RefFill.as {rest' line' : Nat → Int} {other' : Nat → Nat} (h : RefFill w D L O R base n H rest line other sv gv small great) (e1 : ∀ k, k < n → rest k = rest' k) (e2 : ∀ k, k < n → line k = line' k) (e3 : ∀ k, k < n → other k = other' k) :
    RefFill w D L O R base n H rest' line' other' sv gv small great where
  h := h.h
  l := h.l.congr (fun i hi => by rw [e2 i hi])
  o := h.o.congr (fun i hi => by rw [e3 i hi])
  r := h.r.congr (fun i hi => by rw [e1 i hi])
  s := h.s
  g := h.g
  ne := h.ne
end
/-- at first -/
theorem ref_start (w : World) (n : Nat) (t : TypeId) (x : World) (D L O : Nat) (hD : x.rowIs D 78 3 (ownv 0 L O n)) (hL : x.rowIs L 3 n (fun _ => .int .i64 0)) (hO : x.rowIs O 3 n (fun _ => .int .i64 0)) (dl : D ≠ L) (d' : D ≠ O) (lo : L ≠ O) (b : w.heap.size ≤ D) (ht : t = 3) :
    RefFill (x.alloc (.cells (noughts n) t)) D L O x.heap.size (x.heap.size + 1) n 0 (fun _ => 0) (fun _ => 0) (fun _ => 0) (.slice none 0 0) (.slice none 0 0) [] [] ∧ Apart D L O x.heap.size (x.heap.size + 1) ∧ w.heap.size ≤ D := by
  subst ht
  have h1 := hD.lt
  have h2 := hL.lt
  have h3 := hO.lt
  have r := World.rowIs_alloc x (noughts n) 3 (fun _ => .int .i64 0) (fun i hi => noughts_at n i (by rw [noughts_size] at hi; exact hi))
  rw [noughts_size] at r
  exact ⟨⟨hD.alloc _, hL.alloc _, (hO.alloc _).congr (fun _ _ => rfl), r, Que.nil _ _ _, Que.nil _ _ _, fun k hk => by simp [Value.ownBlock] at hk⟩, ⟨dl, d', by omega, lo, by omega, by omega, by omega, by omega, by omega, by omega⟩, b⟩
end Go.Proofs.YtlhffdmhbplpjaaDoor
