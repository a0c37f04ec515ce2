/-
  The closed fact of the laws on stakes: one joins a baker, and leaves with a part.
  A slice of acts on stakes that came in: what its reading gives a walk.
-/
import Derived.Test.YtileplhjbnmgnabGreatDoorProgStkActs
import Derived.Test.YtileplhjbnmgnabGreatDoorErrX
import Derived.Test.YtileplhjbnmgnabGreatDoorStkA
import Derived.Test.YtileplhjbnmgnabGreatDoorAid
import Derived.Test.YtileplhjbnmgnabGreatDoorRowLib
import Derived.Deep.SlicePairs
namespace Go.Proofs.YtileplhjbnmgnabGreatDoor
open Go.RowKit

set_option maxRecDepth 100000 in
set_option maxHeartbeats 1000000 in
theorem staked_of (A : Nat → Addr) (w : World) (hL : StkLaid w A) :
    Calls Tryz.prog 5 #[] w fun e w' => e = .returned (.bool true) ∧ Below w.heap.size w w' := by
  have o1 := Sk.none_ok.reg 1
  have o2 := o1.join 4 1 10
  have o3 := o2.leave 4 1 3 5
  have k1 : Sk.none.regC 1 = 0 := by decide
  have k2 : (Sk.none.reg 1).joinC 4 1 10 = 0 := by decide
  have k3 : ((Sk.none.reg 1).join 4 1 10).leaveC 4 1 3 5 = 0 := by decide
  have k4 : ((((Sk.none.reg 1).join 4 1 10).leave 4 1 3 5).P 1).T = 7 := by decide
  have k5 : (((Sk.none.reg 1).join 4 1 10).leave 4 1 3 5).total = 10 := by decide
  have k6 : ((((Sk.none.reg 1).join 4 1 10).leave 4 1 3 5).W 1 5).val 4 = 3 := by decide
  have k7 : (((Sk.none.reg 1).join 4 1 10).leave 4 1 3 5).K.length ≤ 900 := by decide
  obtain ⟨x1, e1⟩ : ∃ x1, x1 = Sk.none.reg 1 := ⟨_, rfl⟩
  rw [← e1] at o1 o2 o3 k2 k3 k4 k5 k6 k7
  obtain ⟨x2, e2⟩ : ∃ x2, x2 = x1.join 4 1 10 := ⟨_, rfl⟩
  rw [← e2] at o2 o3 k3 k4 k5 k6 k7
  obtain ⟨x3, e3⟩ : ∃ x3, x3 = x2.leave 4 1 3 5 := ⟨_, rfl⟩
  rw [← e3] at o3 k4 k5 k6 k7
  have K1 := hide k1
  have K2 := hide k2
  have K3 := hide k3
  have K4 := hide k4
  have K5 := hide k5
  have K6 := hide k6
  have E1 := hide e1
  have E2 := hide e2
  have E3 := hide e3
  clear k1 k2 k3 k4 k5 k6 e1 e2 e3
  go_enter Tryz.func5, Tryz.ntmps5
  go_wp2_with fail
  refine (ps_new _).mono ?_
  rintro e w1 ⟨sb, F1, rfl, hP1, hf, hB1⟩
  have hM1 := Mine.new hf hB1
  clear hf hB1
  go_wp2_with fail
  refine (ps_register F1 sb _ Sk.none_ok 0 (by omega) 1 A w1 (hL.below hM1.below) hP1).mono ?_
  rintro e w2 ⟨ev, F2, rfl, hE, hP2, hV⟩
  obtain rfl := hE.nil K1.out
  rw [← E1.out] at hP2
  have hM2 := hM1.next hV
  clear hE hP1 hM1 hV K1 E1
  go_wp2_with fail
  refine (ps_join F2 sb x1 o1 _ (by omega) 4 1 10 (by decide) A w2 (hL.below hM2.below) hP2).mono ?_
  rintro e w3 ⟨ev, F3, rfl, hE, hP3, hV⟩
  obtain rfl := hE.nil K2.out
  rw [← E2.out] at hP3
  have hM3 := hM2.next hV
  clear hE hP2 hM2 hV K2 E2
  go_wp2_with fail
  refine (ps_leave F3 sb x2 o2 _ (by omega) 4 1 3 5 (by decide) (by decide) A w3 (hL.below hM3.below) hP3).mono ?_
  rintro e w4 ⟨ev, F4, rfl, hE, hP4, hV⟩
  obtain rfl := hE.nil K3.out
  rw [← E3.out] at hP4
  have hM4 := hM3.next hV
  clear hE hP3 hM3 hV K3 E3
  go_wp2_with fail
  refine (ps_staked F4 sb x3 o3 _ 1 w4 hP4).mono ?_
  rintro e w5 ⟨rfl, m, hw⟩
  have hP5 : PSk F4 w5 sb x3 (0 + 4 + 4 + 4) := by rw [hw]; exact hP4.keptP (G := fun _ => False) ((KeptP.refl _ _).drewN m) (fun _ g => g.elim)
  have hM5 : Mine w.heap.size w w5 F4 := by rw [hw]; exact hM4.drewN m
  have k4 : ((x3.P 1).T == 7) = true := by simp [K4.out]
  clear hw hP4 hM4
  go_wp2_with fail
  refine (ps_total F4 sb x3 o3 k7 _ w5 hP5).mono ?_
  rintro e w6 ⟨rfl, hB6⟩
  have hP6 := hP5.keptP (KeptP.of_below (F := fun _ => False) hB6) (fun _ g => g.elim)
  have hM6 := hM5.nextB hB6
  have k5 : (x3.total == 10) = true := by simp [K5.out]
  clear hP5 hM5 hB6
  go_wp2_with fail
  refine (ps_waits F4 sb x3 o3 _ 4 1 5 (by decide) (by decide) w6 hP6).mono ?_
  rintro e w7 ⟨rfl, hB7⟩
  have hM7 := hM6.nextB hB7
  have k6 : ((x3.W 1 5).val 4 == 3) = true := by simp [K6.out]
  clear hB7 hP6 hM6
  go_wp2
  go_ret
  exact ⟨rfl, hM7.below⟩
end Go.Proofs.YtileplhjbnmgnabGreatDoor

namespace Go.Proofs.YtileplhjbnmgnabGreatDoor
open Go.ChangeShapes Go.WideShapes Go.ChangeAt Go.RowKit

theorem Tryz.cellsAct2 : Tryz.prog.cellsOf 30 = 5 := by kernel_rfl
theorem Tryz.cellsInt5 : Tryz.prog.cellsOf 3 = 1 := by kernel_rfl
theorem Tryz.cellsString5 : Tryz.prog.cellsOf 9 = 1 := by kernel_rfl
/-- one act, as it lies -/
structure ActAt (w : World) (b off : Nat) (K : ByteArray) (O C N Y : Int) : Prop where
  c0 : w.cell? ⟨b, off, none⟩ = some (.string K)
  c1 : w.cell? ⟨b, off + 1, none⟩ = some (.int .i64 O)
  c2 : w.cell? ⟨b, off + 2, none⟩ = some (.int .i64 C)
  c3 : w.cell? ⟨b, off + 3, none⟩ = some (.int .i64 N)
  c4 : w.cell? ⟨b, off + 4, none⟩ = some (.int .i64 Y)
  wO : (Lit.int .i64 O).wf = true
  wC : (Lit.int .i64 C).wf = true
  wN : (Lit.int .i64 N).wf = true
  wY : (Lit.int .i64 Y).wf = true
/-- so many acts laid one behind another -/
def Acts2 (w : World) (b off len : Nat) : Prop := ∀ i, i < len → ∃ K O C N Y, ActAt w b (off + i * 5) K O C N Y
theorem Acts2.below {w w' : World} {b off len B : Nat} (h : Acts2 w b off len) (hB : Below B w w') (hb : b < B) : Acts2 w' b off len := fun i hi => by
  obtain ⟨K, O, C, N, Y, a⟩ := h i hi
  have e : ∀ k, w'.cell? ⟨b, k, none⟩ = w.cell? ⟨b, k, none⟩ := fun k => hB.cell (p := ⟨b, k, none⟩) hb
  exact ⟨K, O, C, N, Y, (e _).trans a.c0, (e _).trans a.c1, (e _).trans a.c2, (e _).trans a.c3, (e _).trans a.c4, a.wO, a.wC, a.wN, a.wY⟩
/-- empty, or so many acts one behind another -/
def IsActs2 (W : World) (a : Option Addr) (len cap : Nat) : Prop :=
  (len = 0) ∨ ∃ (b off : Nat), a = some ⟨b, off, none⟩ ∧ b < W.heap.size ∧ len ≤ cap ∧ cap ≤ 9223372036854775807 ∧ Acts2 W b off len
set_option maxRecDepth 100000 in
theorem acts2_of {H : Type} {enc : TypeId × Value → H} {W : World} {a : Option Addr} {len cap : Nat} {d : DataW H} {p : List MemPlace}
    (h : DataW.Trod enc Tryz.prog W 0 (fun _ => true) true 22 (.slice a len cap) d p) : IsActs2 W a len cap := by
  obtain ⟨fuel, hf⟩ := h
  rcases Nat.eq_zero_or_pos len with h0 | h0
  · exact .inl h0
  rcases Deep.open_slice Tryz.underlying22 hf with ⟨hcs, _⟩ | ⟨x, l, c, m, n, D, Pl, hcs, _, hl, hm, hmm, _, hx⟩
  · simp [Value.cells] at hcs
    omega
  · simp [Value.cells] at hcs
    obtain ⟨rfl, rfl, rfl⟩ := hcs
    have hm' : m = cap := by simpa using hmm
    subst hm'
    have each : ∀ i, i < m → ∃ (s : ByteArray) (o k u v : Int), W.cell? (x.add (i * 5)) = some (.string s) ∧ W.cell? (x.add (i * 5 + 1)) = some (.int .i64 o) ∧ W.cell? (x.add (i * 5 + 2)) = some (.int .i64 k) ∧ W.cell? (x.add (i * 5 + 3)) = some (.int .i64 u) ∧ W.cell? (x.add (i * 5 + 4)) = some (.int .i64 v) ∧ (Lit.int .i64 o).wf = true ∧ (Lit.int .i64 k).wf = true ∧ (Lit.int .i64 u).wf = true ∧ (Lit.int .i64 v).wf = true := by
      intro i hi
      obtain ⟨cs', h1, h2⟩ := hx i hi
      rw [Tryz.cellsAct2] at h1
      obtain ⟨_, hlen, hcell⟩ := World.cells?_some h1
      obtain ⟨xs, k, hk, hxy, _, hxl, hf'⟩ := DataW.trod_struct Tryz.underlying30 h2
      match xs, hxl, cs', hlen with
      | [y0, y1, y2, y3, y4], _, [v0, v1, v2, v3, v4], _ =>
        have g0 := hf' 0 _ rfl
        have g1 := hf' 1 _ rfl
        have g2 := hf' 2 _ rfl
        have g3 := hf' 3 _ rfl
        have g4 := hf' 4 _ rfl
        simp [Tryz.cellsInt5, Tryz.cellsString5] at g0 g1 g2 g3 g4
        obtain ⟨s, e0, _, _⟩ := DataW.trod_string Tryz.underlying9 g0
        obtain ⟨u1, e1, _, w1⟩ := DataW.trod_int Tryz.underlying3 g1
        obtain ⟨u2, e2, _, w2⟩ := DataW.trod_int Tryz.underlying3 g2
        obtain ⟨u3, e3, _, w3⟩ := DataW.trod_int Tryz.underlying3 g3
        obtain ⟨u4, e4, _, w4⟩ := DataW.trod_int Tryz.underlying3 g4
        have c0 := hcell 0 (by omega)
        have c1 := hcell 1 (by omega)
        have c2 := hcell 2 (by omega)
        have c3 := hcell 3 (by omega)
        have c4 := hcell 4 (by omega)
        rw [Deep.add_add] at c0 c1 c2 c3 c4
        simp at e0 e1 e2 e3 e4
        subst e0 e1 e2 e3 e4
        exact ⟨s, u1, u2, u3, u4, by simpa using c0, by simpa using c1, by simpa using c2, by simpa using c3, by simpa using c4, w1, w2, w3, w4⟩
    obtain ⟨b, off, spot⟩ := x
    have hc0 := (each 0 (by omega)).choose_spec.choose_spec.choose_spec.choose_spec.choose_spec.1
    have hspot : spot = none := by simpa [Addr.add] using World.cell?_spot hc0
    subst hspot
    refine .inr ⟨b, off, rfl, cell_lt hc0, hl, hm, fun i hi => ?_⟩
    obtain ⟨s, u1, u2, u3, u4, c0, c1, c2, c3, c4, w1, w2, w3, w4⟩ := each i (by omega)
    rw [add_plain] at c0 c1 c2 c3 c4
    rw [← Nat.add_assoc] at c1 c2 c3 c4
    exact ⟨s, u1, u2, u3, u4, c0, c1, c2, c3, c4, w1, w2, w3, w4⟩
end Go.Proofs.YtileplhjbnmgnabGreatDoor
