/-
  All levels' bakers, or the first fault (side.allBakers), alone.
  The document's columns under way, as they lie in memory: what each thing that a round does makes of them.
  The document's draw (bakehouseref1) by its contracts: the weights' fault; picks.
-/
import Derived.Test.YtmbfdhekplnoaaaDoorSideLoneX
import Derived.Test.YtmbfdhekplnoaaaDoorCode
import Derived.Deep.OwnRows
import Derived.Test.YtmbfdhekplnoaaaDoorLotsBelowX
namespace Go.Proofs.YtmbfdhekplnoaaaDoor
open Go.RowKit

set_option maxRecDepth 100000 in
theorem bare_of (B : Nat) (e : Value) (z p : Int) (A : Nat → Addr) (w : World) (hL : Laid w A) (hE : ErrAt B w A e z p) :
    Calls Tryd.prog 24 #[e] w fun r w' => ∃ i : Nat, i < 10 ∧ z = i + 1 ∧ r = .returned (sent (A i)) ∧ Below w.heap.size w w' := by
  have hB0 : Below w.heap.size w (w.alloc (.cells #[.pointer none] 63)) := (Below.refl _ _).alloc (Nat.le_refl _) _
  have k0 : (w.alloc (.cells #[.pointer none] 63)).cell? ⟨w.heap.size, 0, none⟩ = some (.pointer none) := cell_new _ _ _ _ _ _ rfl rfl
  have f0 : (w.alloc (.cells #[.pointer none] 63)).frozen? ⟨w.heap.size, 0, none⟩ = false := World.frozen?_alloc_at _ _ _ _ rfl
  rcases hE with ⟨i, hi, hz, _, rfl⟩ | ⟨m, i, _, hi, hz, rfl, c0, c1⟩
  · have P := noAs hL (A i) _ ⟨w.heap.size, 0, none⟩ hB0
    clear k0 f0
    go_enter Tryd.func24, Tryd.ntmps24
    go_wp2_with (go_at_call 36; refine P.mono ?_; rintro e w1 ⟨rfl, hB1⟩)
    go_ret
    exact ⟨i, hi, hz, rfl, hB0.trans (hB1.mono hB0.size)⟩
  · have P : Calls Tryd.prog 36 #[fault m, .iface 89 (.pointer (some ⟨w.heap.size, 0, none⟩))] (w.alloc (.cells #[.pointer none] 63)) fun ev w' => ev = .returned (.bool true) ∧ Below w.heap.size w w' ∧ w'.cell? ⟨w.heap.size, 0, none⟩ = some (.pointer (some ⟨m, 0, none⟩)) := by
      refine (As_fault ⟨m, 0, none⟩ ⟨w.heap.size, 0, none⟩ (.pointer none) (w.alloc (.cells #[.pointer none] 63)) (hL.below hB0).h (cell_lt (hL.below hB0).h) k0 f0).mono ?_
      rintro ev w' ⟨h1, rfl⟩
      have al : ∀ {x : World}, Below w.heap.size w x → ∀ o, Below w.heap.size w (x.alloc o) := fun h o => h.alloc h.size o
      refine ⟨h1, (al (al (al (al hB0 _) _) _) _).setCell (p := ⟨w.heap.size, 0, none⟩) (Nat.le_refl _) _, ?_⟩
      have st : ∀ {x : World} (o : Obj) {a : Addr} {v : Value}, x.cell? a = some v → (x.alloc o).cell? a = some v := @fun _ o _ _ h => draw_old ((Below.refl _ _).alloc (Nat.le_refl _) o) h
      exact World.cell?_setCell_same _ _ _ (st _ (st _ (st _ (st _ k0))))
    clear k0 f0 hB0
    go_enter Tryd.func24, Tryd.ntmps24
    go_wp2_with fail
    refine P.mono ?_
    rintro e w1 ⟨rfl, hB1, q⟩
    have d1 := draw_old hB1 c1
    clear P
    go_wp2_with fail
    go_ret
    exact ⟨i, hi, hz, rfl, hB1⟩
def AllEnd (w : World) (A : Nat → Addr) (n : Nat) (W : Nat → Int) (seed : Nat) (c : Int) (M : Nat) (Lv : Nat → Int) (s e : Value) : Prop :=
  (∃ i0 i m : Nat, ∃ p : Int, i0 < M ∧ (∀ j, j < i0 → LvFine n W c (Lv j)) ∧ i < 10 ∧ LvFault n W c (Lv i0) (i + 1) p ∧ s = .slice none 0 0 ∧ e = fault m ∧ w.cell? ⟨m, 0, none⟩ = some (.int .i64 i0) ∧ w.cell? ⟨m, 1, none⟩ = some (sent (A i))) ∨
  ((∀ j, j < M → LvFine n W c (Lv j)) ∧ ∃ m cap', s = .slice (some ⟨m, 0, none⟩) M cap' ∧ e = .nilIface ∧ (∃ c t f, w.heap[m]? = some (.cells c t f)) ∧ ∀ j, j < M → ∃ mj cj K, w.cell? ⟨m, j, none⟩ = some (.slice (some ⟨mj, 0, none⟩) 8 cj) ∧ mj < w.heap.size ∧ Ints w mj 0 8 K ∧ ∀ r : Nat, r < 8 → Turn n W seed c (Lv j) r (K r))
theorem Tryd.infoLists : (Tryd.prog.info? 22).map (fun i => (i.zero, i.size, i.bytes)) = some (some (.slice none 0 0), 1, 24) := by kernel_rfl
theorem made_lists (n : Nat) (h : n ≤ 1000) (w : World) : (Instr.makeSlice 25 (.int .i64 (n : Int)) (.int .i64 (n : Int))).run Tryd.prog w = .ok (.slice (some ⟨w.heap.size, 0, none⟩) n n) (w.alloc (.cells (madeCells #[.slice none 0 0] n) 22)) :=
  run_make_row' (P := Tryd.prog) 25 22 (.slice none 0 0) 24 Tryd.underlying25 Tryd.infoLists rfl .i64 .i64 n (by omega) (by omega) w
def listTo (S : Nat → Value) (k : Nat) : Nat → Value := fun i => if i < k then S i else .slice none 0 0
theorem listTo_next (S : Nat → Value) (k j : Nat) : (if j = k then S k else listTo S k j) = listTo S (k + 1) j := by
  unfold listTo
  by_cases e : j = k
  · subst e; rw [if_pos rfl, if_pos (by omega)]
  · rw [if_neg e]
    by_cases l : j < k
    · rw [if_pos l, if_pos (by omega)]
    · rw [if_neg l, if_neg (by omega)]
set_option maxRecDepth 100000 in
set_option maxHeartbeats 2000000 in
theorem bakers_of (B lb M cap n seed : Nat) (hM : M ≤ 1000) (W Lv : Nat → Int) (c : Int) (S E : Nat → Value) (A : Nat → Addr) (w : World) (hL : Laid w A) (hlb : M ≠ 0 → lb < w.heap.size)
    (h : ∀ i, i < M → w.cell? ⟨lb, i * 2, none⟩ = some (S i) ∧ w.cell? ⟨lb, i * 2 + 1, none⟩ = some (E i) ∧ LvEnd B w A n W seed c (Lv i) (S i) (E i)) :
    Calls Tryd.prog 12 #[.slice (some ⟨lb, 0, none⟩) M cap] w fun e w' => ∃ s ev, e = .returned (.tuple #[s, ev]) ∧ AllEnd w' A n W seed c M Lv s ev ∧ Below w.heap.size w w' := by
  have mk := made_lists M hM w
  have hB0 : Below w.heap.size w (w.alloc (.cells (madeCells #[.slice none 0 0] M) 22)) := (Below.refl _ _).alloc (Nat.le_refl _) _
  have R0 := World.rowIs_made w (.slice none 0 0) M 22
  go_enter Tryd.func12, Tryd.ntmps12
  go_wp2_with fail
  go_loopw [12] (fun i wr => ∃ k : Nat, k ≤ M ∧ i = .int .i64 k ∧ Below w.heap.size w wr ∧ wr.rowIs w.heap.size 22 M (listTo S k) ∧ Hid (∀ j, j < k → E j = .nilIface)) (fun i _ => M - (intOf i).toNat)
  case atStart => exact ⟨0, Nat.zero_le _, rfl, hB0, R0.congr fun i _ => rfl, hide fun j hj => by omega⟩
  case round =>
    obtain ⟨k, hk, rfl, hB, R, hE⟩ := hrel
    clear mk hB0 R0
    by_cases hlt : k < M
    · obtain ⟨c0, c1, hV⟩ := h k hlt
      have q1 : (k : Int) < (M : Int) := by omega
      have hVr := hide (hV.below hB)
      have d0 := draw_old hB c0
      have d1 := draw_old hB c1
      obtain ⟨⟨sa, sk, sc, hSk⟩, hEk⟩ := hV.cells
      have LR := hide (hL.below hB)
      have cR := R.cell hlt
      have fR := R.frozen k
      have R2 := (R.set k (S k)).congr fun i _ => listTo_next S k i
      have hA : ∀ o, Below w.heap.size w (wr.alloc o) := fun o => hB.alloc hB.size o
      rw [hSk] at d0 R2
      have HV := hide hV
      have HS := hide hSk
      have HH := hide h
      clear h hV hSk hL c0 c1
      have wl : w.heap.size < wr.heap.size := R.lt
      rcases hEk with hEk | ⟨u, y, hEk⟩
      · rw [hEk] at d1
        have HE := hide hEk
        clear hEk
        have B2 : Below w.heap.size w ((wr.setCell ⟨w.heap.size, k, none⟩ (.slice sa sk sc)).alloc (.cells #[.slice sa sk sc, .nilIface] 44)) := by
          have q := hB.setCell (p := ⟨w.heap.size, k, none⟩) (Nat.le_refl _) (.slice sa sk sc)
          exact q.alloc q.size _
        have R3 := R2.alloc (.cells #[.slice sa sk sc, .nilIface] 44)
        have hE2 : Hid (∀ j, j < k + 1 → E j = .nilIface) := hide fun j hj => by
          rcases Nat.lt_or_eq_of_le (Nat.le_of_lt_succ hj) with q | q
          · exact hE.out j q
          · rw [q]; exact HE.out
        clear hE hB R R2
        go_wp2_with fail
        go_roundw
        case rel => exact ⟨k + 1, by omega, by go_num, B2, R3, hE2⟩
        case measure => simp [intOf]; omega
      · rw [hEk] at d1
        have HE := hide hEk
        have dV : ∀ o, Hid (∃ z p, LvFault n W c (Lv k) z p ∧ ErrAt B (wr.alloc o) A (.iface u y) z p) := fun o => hide (by
          rcases hVr.out with ⟨z, p, h1, _, _, h4⟩ | ⟨m, cap', K, _, _, h3, _⟩
          · rw [hEk] at h4
            exact ⟨z, p, h1, h4.below ((Below.refl _ _).alloc (Nat.le_refl _) o)⟩
          · rw [hEk] at h3; cases h3)
        obtain ⟨z, p, hF, hX⟩ := (dV (.cells #[.slice sa sk sc, .iface u y] 44)).out
        have P := bare_of B (.iface u y) z p A _ (LR.out.below ((Below.refl _ _).alloc (Nat.le_refl _) _)) hX
        have fine : Hid (∀ j, j < k → LvFine n W c (Lv j)) := hide fun j hj => by
          rcases (HH.out j (by omega)).2.2 with ⟨z, p, _, _, ⟨u', y', h3⟩, _⟩ | ⟨m, cap', K, h1, _⟩
          · rw [hE.out j hj] at h3; cases h3
          · exact h1
        have HF := hide hF
        have Bx := hA (.cells #[.slice sa sk sc, .iface u y] 44)
        clear hEk hX dV hF hE
        go_wp2_with fail
        refine P.mono ?_
        rintro e w5 ⟨i, hi, rfl, rfl, hB5⟩
        have B6 : ∀ o, Hid (Below w.heap.size w (w5.alloc o)) := fun o => hide (by
          have q := Bx.trans (hB5.mono Bx.size)
          exact q.alloc q.size o)
        have m0 : (w5.alloc (.cells #[.int .i64 k, sent (A i)] 66)).cell? ⟨w5.heap.size, 0, none⟩ = some (.int .i64 k) := cell_new _ _ _ _ _ _ rfl rfl
        have m1 : (w5.alloc (.cells #[.int .i64 k, sent (A i)] 66)).cell? ⟨w5.heap.size, 1, none⟩ = some (sent (A i)) := cell_new _ _ _ _ _ _ rfl rfl
        clear P hB5 Bx hA hB R R2
        go_wp2_with fail
        go_ret2
        exact ⟨_, _, rfl, .inl ⟨k, i, w5.heap.size, p, hlt, fine.out, hi, HF.out, rfl, rfl, m0, m1⟩, (B6 _).out⟩
    · obtain rfl : k = M := by omega
      have q1 : ¬ (k : Int) < (k : Int) := by omega
      have RL : ∃ c t f, wr.heap[w.heap.size]? = some (.cells c t f) := let ⟨c, h, _⟩ := R; ⟨c, _, _, h⟩
      have HH := hide h
      clear h
      go_wp2_with fail
      go_ret2
      have all : ∀ j, j < k → LvFine n W c (Lv j) ∧ ∃ mj cj K, S j = .slice (some ⟨mj, 0, none⟩) 8 cj ∧ mj < wr.heap.size ∧ Ints wr mj 0 8 K ∧ ∀ r : Nat, r < 8 → Turn n W seed c (Lv j) r (K r) := fun j hj => by
        rcases ((HH.out j hj).2.2).below hB with ⟨z, p, _, _, ⟨u', y', h3⟩, _⟩ | ⟨m, cap', K, h1, h2, _, h4, h5, h6⟩
        · rw [hE.out j hj] at h3; cases h3
        · exact ⟨h1, m, cap', K, h2, h4.2, h5, h6⟩
      refine ⟨_, _, rfl, .inr ⟨fun j hj => (all j hj).1, w.heap.size, k, rfl, rfl, RL, fun j hj => ?_⟩, hB⟩
      obtain ⟨_, mj, cj, K, e, h2, h3, h4⟩ := all j hj
      refine ⟨mj, cj, K, ?_, h2, h3, h4⟩
      rw [R.cell hj]
      unfold listTo
      rw [if_pos hj, e]
end Go.Proofs.YtmbfdhekplnoaaaDoor

namespace Go.Proofs.YtmbfdhekplnoaaaDoor
open Go.RowKit Go.Deep

def ownv (H : Int) (L O n j : Nat) : Value := if j = 0 then .int .i64 H else if j = 1 then .slice (some ⟨L, 0, none⟩) n n else .slice (some ⟨O, 0, none⟩) n n
structure Apart (D L O R base : Nat) : Prop where
  dl : D ≠ L
  d' : D ≠ O
  dr : D ≠ R
  lo : L ≠ O
  lr : L ≠ R
  or' : O ≠ R
  bd : D < base ∧ L < base ∧ O < base ∧ R < base
structure RefFill (w : World) (D L O R base n : Nat) (H : Int) (rest line : Nat → Int) (other : Nat → Nat) (sv gv : Value) (small great : List Nat) : Prop where
  h : w.rowIs D 59 3 (ownv H L O n)
  l : w.rowIs L 3 n (fun j => .int .i64 (line j))
  o : w.rowIs O 3 n (fun j => .int .i64 (other j))
  r : w.rowIs R 3 n (fun j => .int .i64 (rest j))
  s : Que w 3 base sv (ints small)
  g : Que w 3 base gv (ints great)
  ne : ∀ k, sv.ownBlock = some k → gv.ownBlock ≠ some k

section
variable {w : World} {D L O R base n : Nat} {H : Int} {rest line : Nat → Int} {other : Nat → Nat} {sv gv : Value} {small great : List Nat}
theorem RefFill.cH (h : RefFill w D L O R base n H rest line other sv gv small great) : w.cell? ⟨D, 0, none⟩ = some (.int .i64 H) := h.h.cell (by omega)
theorem RefFill.cL (h : RefFill w D L O R base n H rest line other sv gv small great) : w.cell? ⟨D, 1, none⟩ = some (.slice (some ⟨L, 0, none⟩) n n) := h.h.cell (by omega)
theorem RefFill.cO (h : RefFill w D L O R base n H rest line other sv gv small great) : w.cell? ⟨D, 2, none⟩ = some (.slice (some ⟨O, 0, none⟩) n n) := h.h.cell (by omega)
theorem RefFill.drewN (h : RefFill w D L O R base n H rest line other sv gv small great) (m : Nat) : RefFill (w.drewN m) D L O R base n H rest line other sv gv small great := ⟨h.h, h.l, h.o, h.r, h.s, h.g, h.ne⟩
theorem RefFill.drew (h : RefFill w D L O R base n H rest line other sv gv small great) : RefFill w.drew D L O R base n H rest line other sv gv small great := ⟨h.h, h.l, h.o, h.r, h.s, h.g, h.ne⟩
theorem RefFill.setH (h : RefFill w D L O R base n H rest line other sv gv small great) (a : Apart D L O R base) (x : Int) : RefFill (w.setCell ⟨D, 0, none⟩ (.int .i64 x)) D L O R base n x rest line other sv gv small great where
  h := (h.h.set 0 _).congr (fun i _ => by
    show (if i = 0 then Value.int .i64 x else ownv H L O n i) = ownv x L O n i
    unfold ownv; split <;> rfl)
  l := h.l.setOther (fun e => a.dl e.symm) _
  o := h.o.setOther (fun e => a.d' e.symm) _
  r := h.r.setOther (fun e => a.dr e.symm) _
  s := h.s.setCell _ _ (que_off h.s a.bd.1)
  g := h.g.setCell _ _ (que_off h.g a.bd.1)
  ne := h.ne
theorem RefFill.setR (h : RefFill w D L O R base n H rest line other sv gv small great) (a : Apart D L O R base) (k : Nat) (x : Int) : RefFill (w.setCell ⟨R, k, none⟩ (.int .i64 x)) D L O R base n H (upd rest k x) line other sv gv small great where
  h := h.h.setOther a.dr _
  l := h.l.setOther a.lr _
  o := h.o.setOther a.or' _
  r := (h.r.set k _).congr (fun i _ => by
    show (if i = k then Value.int .i64 x else .int .i64 (rest i)) = .int .i64 (upd rest k x i)
    unfold upd; split <;> rfl)
  s := h.s.setCell _ _ (que_off h.s a.bd.2.2.2)
  g := h.g.setCell _ _ (que_off h.g a.bd.2.2.2)
  ne := h.ne
theorem RefFill.setL (h : RefFill w D L O R base n H rest line other sv gv small great) (a : Apart D L O R base) (k : Nat) (x : Int) : RefFill (w.setCell ⟨L, k, none⟩ (.int .i64 x)) D L O R base n H rest (upd line k x) other sv gv small great where
  h := h.h.setOther a.dl _
  l := (h.l.set k _).congr (fun i _ => by
    show (if i = k then Value.int .i64 x else .int .i64 (line i)) = .int .i64 (upd line k x i)
    unfold upd; split <;> rfl)
  o := h.o.setOther (fun e => a.lo e.symm) _
  r := h.r.setOther (fun e => a.lr e.symm) _
  s := h.s.setCell _ _ (que_off h.s a.bd.2.1)
  g := h.g.setCell _ _ (que_off h.g a.bd.2.1)
  ne := h.ne
theorem RefFill.setO (h : RefFill w D L O R base n H rest line other sv gv small great) (a : Apart D L O R base) (k x : Nat) : RefFill (w.setCell ⟨O, k, none⟩ (.int .i64 x)) D L O R base n H rest line (upd other k x) sv gv small great where
  h := h.h.setOther a.d' _
  l := h.l.setOther a.lo _
  o := (h.o.set k _).congr (fun i _ => by
    show (if i = k then Value.int .i64 (x : Int) else .int .i64 (other i)) = .int .i64 ((upd other k x i : Nat) : Int)
    unfold upd; split <;> rfl)
  r := h.r.setOther (fun e => a.or' e.symm) _
  s := h.s.setCell _ _ (que_off h.s a.bd.2.2.1)
  g := h.g.setCell _ _ (que_off h.g a.bd.2.2.1)
  ne := h.ne
theorem RefFill.alloc (h : RefFill w D L O R base n H rest line other sv gv small great) (x : Obj) : RefFill (w.alloc x) D L O R base n H rest line other sv gv small great :=
  ⟨h.h.alloc x, h.l.alloc x, h.o.alloc x, h.r.alloc x, h.s.alloc x, h.g.alloc x, h.ne⟩
theorem RefFill.pushS {w' : World} {sv' : Value} {k : Nat} (h : RefFill w D L O R base n H rest line other sv gv small great) (a : Apart D L O R base) (hq : Que w' 3 base sv' (ints small ++ [(k : Int)])) (hg : w.grownBy w' sv.ownBlock)
    (ho : sv'.ownBlock = sv.ownBlock ∨ ∃ k, sv'.ownBlock = some k ∧ w.heap.size ≤ k) : RefFill w' D L O R base n H rest line other sv' gv (small ++ [k]) great := by
  have off : ∀ b, b < base → some b ≠ sv.ownBlock := fun b hb e => que_off h.s hb e.symm
  exact {
    h := h.h.of_block (hg.block _ h.h.lt (off _ a.bd.1))
    l := h.l.of_block (hg.block _ h.l.lt (off _ a.bd.2.1))
    o := h.o.of_block (hg.block _ h.o.lt (off _ a.bd.2.2.1))
    r := h.r.of_block (hg.block _ h.r.lt (off _ a.bd.2.2.2))
    s := by rw [ints_append]; exact hq
    g := h.g.grown hg (fun k hk e => h.ne k e.symm hk)
    ne := fun j hj hk => by
      rcases ho with e | ⟨i, e, hi⟩
      · exact h.ne j (e.symm.trans hj) hk
      · obtain rfl := Option.some.inj (e.symm.trans hj)
        have := (h.g.lt i hk).2
        omega }
theorem RefFill.pushG {w' : World} {gv' : Value} {k : Nat} (h : RefFill w D L O R base n H rest line other sv gv small great) (a : Apart D L O R base) (hq : Que w' 3 base gv' (ints great ++ [(k : Int)])) (hg : w.grownBy w' gv.ownBlock)
    (ho : gv'.ownBlock = gv.ownBlock ∨ ∃ k, gv'.ownBlock = some k ∧ w.heap.size ≤ k) : RefFill w' D L O R base n H rest line other sv gv' small (great ++ [k]) := by
  have off : ∀ b, b < base → some b ≠ gv.ownBlock := fun b hb e => que_off h.g hb e.symm
  exact {
    h := h.h.of_block (hg.block _ h.h.lt (off _ a.bd.1))
    l := h.l.of_block (hg.block _ h.l.lt (off _ a.bd.2.1))
    o := h.o.of_block (hg.block _ h.o.lt (off _ a.bd.2.2.1))
    r := h.r.of_block (hg.block _ h.r.lt (off _ a.bd.2.2.2))
    s := h.s.grown hg (fun k hk e => h.ne k hk e.symm)
    g := by rw [ints_append]; exact hq
    ne := fun j hj hk => by
      rcases ho with e | ⟨i, e, hi⟩
      · exact h.ne j hj (e.symm.trans hk)
      · obtain rfl := Option.some.inj (e.symm.trans hk)
        have := (h.s.lt i hj).2
        omega }
theorem RefFill.as {rest' line' : Nat → Int} {other' : Nat → Nat} (h : RefFill w D L O R base n H rest line other sv gv small great) (e1 : ∀ k, k < n → rest k = rest' k) (e2 : ∀ k, k < n → line k = line' k) (e3 : ∀ k, k < n → other k = other' k) :
    RefFill w D L O R base n H rest' line' other' sv gv small great where
  h := h.h
  l := h.l.congr (fun i hi => by rw [e2 i hi])
  o := h.o.congr (fun i hi => by rw [e3 i hi])
  r := h.r.congr (fun i hi => by rw [e1 i hi])
  s := h.s
  g := h.g
  ne := h.ne
end
theorem ref_start (w : World) (n : Nat) (t : TypeId) (x : World) (D L O : Nat) (hD : x.rowIs D 59 3 (ownv 0 L O n)) (hL : x.rowIs L 3 n (fun _ => .int .i64 0)) (hO : x.rowIs O 3 n (fun _ => .int .i64 0)) (dl : D ≠ L) (d' : D ≠ O) (lo : L ≠ O) (b : w.heap.size ≤ D) (ht : t = 3) :
    RefFill (x.alloc (.cells (noughts n) t)) D L O x.heap.size (x.heap.size + 1) n 0 (fun _ => 0) (fun _ => 0) (fun _ => 0) (.slice none 0 0) (.slice none 0 0) [] [] ∧ Apart D L O x.heap.size (x.heap.size + 1) ∧ w.heap.size ≤ D := by
  subst ht
  have h1 := hD.lt
  have h2 := hL.lt
  have h3 := hO.lt
  have r := World.rowIs_alloc x (noughts n) 3 (fun _ => .int .i64 0) (fun i hi => noughts_at n i (by rw [noughts_size] at hi; exact hi))
  rw [noughts_size] at r
  exact ⟨⟨hD.alloc _, hL.alloc _, (hO.alloc _).congr (fun _ _ => rfl), r, Que.nil _ _ _, Que.nil _ _ _, fun k hk => by simp [Value.ownBlock] at hk⟩, ⟨dl, d', by omega, lo, by omega, by omega, by omega, by omega, by omega, by omega⟩, b⟩
end Go.Proofs.YtmbfdhekplnoaaaDoor

namespace Go.Proofs.YtmbfdhekplnoaaaDoor
open Go.RowKit Go.Deep

theorem fineD (w : World) : Calls Tryd.prog 17 #[] w fun e w' => e = .returned (.agg #[.int .i64 0, .int .i64 (-1)]) ∧ w' = w.alloc (.cells #[.int .i64 0, .int .i64 (-1)] 32) := by
  go_enter Tryd.func17, Tryd.ntmps17
  go_wp2
  exact bodyPost_ret (v := .agg #[.int .i64 0, .int .i64 (-1)]) (by simp [results, Tryd.results17, go_sem]) rfl ⟨rfl, rfl⟩
theorem bareD (c : Int) (w : World) : Calls Tryd.prog 16 #[.int .i64 c] w fun e w' => e = .returned (.agg #[.int .i64 c, .int .i64 (-1)]) ∧ w' = w.alloc (.cells #[.int .i64 c, .int .i64 (-1)] 32) := by
  go_enter Tryd.func16, Tryd.ntmps16
  go_wp2
  exact bodyPost_ret (v := .agg #[.int .i64 c, .int .i64 (-1)]) (by simp [results, Tryd.results16, go_sem]) rfl ⟨rfl, rfl⟩

theorem below_two {w : World} {a b : Obj} : Below w.heap.size w ((w.alloc a).alloc b) := ((Below.refl _ _).alloc (Nat.le_refl _) _).alloc (by simp) _
theorem below_one {w : World} {a : Obj} : Below w.heap.size w (w.alloc a) := (Below.refl _ _).alloc (Nat.le_refl _) _

theorem wf_shape (a : Option Addr) (len cap : Nat) (w : World) (h : len = 0 ∨ 64 < len) (hm : len ≤ 9223372036854775807) :
    Calls Tryd.prog 18 #[.slice a len cap] w fun e w' => e = .returned (.agg #[.int .i64 3, .int .i64 (-1)]) ∧ Below w.heap.size w w' := by
  rcases h with h | h
  · subst h
    go_enter Tryd.func18, Tryd.ntmps18
    go_wp2_with (go_at_call 16; refine (bareD 3 _).mono ?_; rintro e w' ⟨rfl, rfl⟩)
    exact bodyPost_ret (v := .agg #[.int .i64 3, .int .i64 (-1)]) (by simp [results, Tryd.results18, go_sem]) rfl ⟨rfl, below_two⟩
  · have h' : ¬ len < 1 := by omega
    go_enter Tryd.func18, Tryd.ntmps18
    go_wp2_with (go_at_call 16; refine (bareD 3 _).mono ?_; rintro e w' ⟨rfl, rfl⟩)
    exact bodyPost_ret (v := .agg #[.int .i64 3, .int .i64 (-1)]) (by simp [results, Tryd.results18, go_sem]) rfl ⟨rfl, below_two⟩

set_option maxRecDepth 100000 in
set_option maxHeartbeats 1000000 in
theorem wf_bad (b off n cap k0 : Nat) (W : Nat → Int) (w : World) (hI : Ints w b off n W) (n1 : 1 ≤ n) (n64 : n ≤ 64) (hk0 : k0 < n) (hG : ∀ i, i < k0 → WOk (W i)) (hbad : ¬ WOk (W k0)) :
    Calls Tryd.prog 18 #[.slice (some ⟨b, off, none⟩) n cap] w fun e w' => e = .returned (.agg #[.int .i64 2, .int .i64 k0]) ∧ Below w.heap.size w w' := by
  have h0 : ¬ n < 1 := by omega
  have hI1 : Ints (w.alloc (.cells #[.int .i64 0, .int .i64 0] 32)) b off n W := fun i hi => by rw [World.cell?_alloc_lt _ _ _ (cell_lt (hI i hi))]; exact hI i hi
  go_enter Tryd.func18, Tryd.ntmps18
  go_wp2
  go_loop [3, 4] (fun s i => ∃ k : Nat, k ≤ k0 ∧ i = .int .i64 k ∧ s = .int .i64 (sumTo W k)) (fun _ i => n - (intOf i).toNat)
  case atStart => exact ⟨0, Nat.zero_le _, rfl, rfl⟩
  case round =>
    obtain ⟨k, hk, rfl, rfl⟩ := hrel
    by_cases hlt : k < k0
    · have c0 := hI1 k (by omega)
      obtain ⟨g0, g1⟩ := hG k hlt
      have hs := sumTo_bd k (fun j hj => hG j (by omega))
      have hkn : k < n := by omega
      have he : Hid (sumTo W k + W k = sumTo W (k + 1)) := rfl
      clear hG hbad hI hI1 h0
      go_wp2
      go_round
      case rel => exact ⟨k + 1, by omega, by go_num, by rw [he.out]⟩
      case measure => simp [intOf]; omega
    · obtain rfl : k = k0 := by omega
      have c0 := hI1 k hk0
      clear hI hG h0 hI1
      unfold WOk at hbad
      by_cases g0 : 0 ≤ W k
      · have g1 : 1073741824 < W k := by omega
        have g0' : ¬ W k < 0 := by omega
        clear hbad
        go_wp2
        exact bodyPost_ret (v := .agg #[.int .i64 2, .int .i64 k]) (by simp [results, Tryd.results18, go_sem]) rfl ⟨rfl, below_one⟩
      · have g0' : W k < 0 := by omega
        clear hbad
        go_wp2
        exact bodyPost_ret (v := .agg #[.int .i64 2, .int .i64 k]) (by simp [results, Tryd.results18, go_sem]) rfl ⟨rfl, below_one⟩

set_option maxRecDepth 100000 in
set_option maxHeartbeats 1000000 in
theorem wf_fine (b off n cap : Nat) (W : Nat → Int) (w : World) (hI : Ints w b off n W) (hW : Weights n W) (z : Int) (hz : (z = 4 ∧ sumTo W n = 0) ∨ (z = 0 ∧ sumTo W n ≠ 0)) :
    Calls Tryd.prog 18 #[.slice (some ⟨b, off, none⟩) n cap] w fun e w' => e = .returned (.agg #[.int .i64 z, .int .i64 (-1)]) ∧ Below w.heap.size w w' := by
  have n1 := hW.n1
  have n64 := hW.n64
  have h0 : ¬ n < 1 := by omega
  have hI1 : Ints (w.alloc (.cells #[.int .i64 0, .int .i64 0] 32)) b off n W := fun i hi => by rw [World.cell?_alloc_lt _ _ _ (cell_lt (hI i hi))]; exact hI i hi
  go_enter Tryd.func18, Tryd.ntmps18
  go_wp2
  go_loop [3, 4] (fun s i => ∃ k : Nat, k ≤ n ∧ i = .int .i64 k ∧ s = .int .i64 (sumTo W k)) (fun _ i => n - (intOf i).toNat)
  case atStart => exact ⟨0, Nat.zero_le _, rfl, rfl⟩
  case round =>
    obtain ⟨k, hk, rfl, rfl⟩ := hrel
    by_cases hlt : k < n
    · have c0 := hI1 k (by omega)
      obtain ⟨g0, g1⟩ := hW.bd k hlt
      have hs := sumTo_bd k (fun j hj => hW.bd j (by omega))
      have he : Hid (sumTo W k + W k = sumTo W (k + 1)) := rfl
      clear hW hI hI1 h0 hz
      go_wp2
      go_round
      case rel => exact ⟨k + 1, by omega, by go_num, by rw [he.out]⟩
      case measure => simp [intOf]; omega
    · obtain rfl : k = n := by omega
      clear hI hI1 hW h0
      rcases hz with ⟨rfl, hz⟩ | ⟨rfl, hz⟩
      · have hz' : (sumTo W k == 0) = true := by simp; exact hz
        clear hz
        go_wp2_with (go_at_call 16; refine (bareD 4 _).mono ?_; rintro e w' ⟨rfl, rfl⟩)
        exact bodyPost_ret (v := .agg #[.int .i64 4, .int .i64 (-1)]) (by simp [results, Tryd.results18, go_sem]) rfl ⟨rfl, below_two⟩
      · have hz' : (sumTo W k == 0) = false := by simp; exact hz
        clear hz
        go_wp2_with (go_at_call 17; refine (fineD _).mono ?_; rintro e w' ⟨rfl, rfl⟩)
        exact bodyPost_ret (v := .agg #[.int .i64 0, .int .i64 (-1)]) (by simp [results, Tryd.results18, go_sem]) rfl ⟨rfl, below_two⟩

/-! a draw that stands -/
structure RefDrawAt (w : World) (D L O n : Nat) (H : Int) (d : DS) : Prop where
  c0 : w.cell? ⟨D, 0, none⟩ = some (.int .i64 H)
  c1 : w.cell? ⟨D, 1, none⟩ = some (.slice (some ⟨L, 0, none⟩) n n)
  c2 : w.cell? ⟨D, 2, none⟩ = some (.slice (some ⟨O, 0, none⟩) n n)
  l : ∀ k, k < n → w.cell? ⟨L, k, none⟩ = some (.int .i64 (d.line k))
  o : ∀ k, k < n → w.cell? ⟨O, k, none⟩ = some (.int .i64 (d.other k))
theorem RefDrawAt.below {w w' : World} {D L O n : Nat} {H : Int} {d : DS} (h : RefDrawAt w D L O n H d) (hB : Below w.heap.size w w') : RefDrawAt w' D L O n H d :=
  ⟨draw_old hB h.c0, draw_old hB h.c1, draw_old hB h.c2, fun k hk => draw_old hB (h.l k hk), fun k hk => draw_old hB (h.o k hk)⟩
theorem ref_pick (D L O n k : Nat) (x H : Int) (d : DS) (w : World) (h : RefDrawAt w D L O n H d) (hk : k < n) :
    Calls Tryd.prog 22 #[.pointer (some ⟨D, 0, none⟩), .int .i64 k, .int .i64 x] w fun e w' => e = .returned (.int .i64 (d.pick k x)) ∧ w' = w := by
  have c1 := h.c1
  have c2 := h.c2
  have cl := h.l k hk
  have co := h.o k hk
  by_cases hl : x < d.line k
  · have e : Hid ((k : Int) = d.pick k x) := by unfold Hid DS.pick; rw [if_pos hl]
    go_enter Tryd.func22, Tryd.ntmps22
    go_wp2
    go_ret
    exact ⟨ret_int e.out, rfl⟩
  · have e : Hid ((d.other k : Int) = d.pick k x) := by unfold Hid DS.pick; rw [if_neg hl]
    go_enter Tryd.func22, Tryd.ntmps22
    go_wp2
    go_ret
    exact ⟨ret_int e.out, rfl⟩
end Go.Proofs.YtmbfdhekplnoaaaDoor
