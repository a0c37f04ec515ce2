/-
  A slice of acts on a chain that came in: what its reading gives a walk.
  One act on the program's chain alone (bakehouselaw3.do), by its contract.
-/
import Derived.Test.YtaihcceobnfmhaaGreatDoorAidX
import Derived.Test.YtaihcceobnfmhaaGreatDoorSentX
import Derived.Deep.SlicePairs
import Derived.Test.YtaihcceobnfmhaaGreatDoorBegunX
import Derived.Test.YtaihcceobnfmhaaGreatDoorProgPictX
namespace Go.Proofs.YtaihcceobnfmhaaGreatDoor
open Go.ChangeShapes Go.WideShapes Go.ChangeAt Go.RowKit

theorem Tryz.cellsAct9 : Tryz.prog.cellsOf 44 = 9 := by kernel_rfl
theorem Tryz.cellsEv9 : Tryz.prog.cellsOf 42 = 3 := by kernel_rfl
theorem Tryz.cellsInt9 : Tryz.prog.cellsOf 3 = 1 := by kernel_rfl
theorem Tryz.cellsString9 : Tryz.prog.cellsOf 9 = 1 := by kernel_rfl
/-- one act on a chain -/
structure CA where
  K : ByteArray
  o : Int
  t : Int
  b : Int
  n : Int
  r : Int
  eb : Int
  ey : Int
  em : Int
/-- as it lies -/
structure CAAt (w : World) (b off : Nat) (t : CA) : Prop where
  c0 : w.cell? ⟨b, off, none⟩ = some (.string t.K)
  c1 : w.cell? ⟨b, off + 1, none⟩ = some (.int .i64 t.o)
  c2 : w.cell? ⟨b, off + 2, none⟩ = some (.int .i64 t.t)
  c3 : w.cell? ⟨b, off + 3, none⟩ = some (.int .i64 t.b)
  c4 : w.cell? ⟨b, off + 4, none⟩ = some (.int .i64 t.n)
  c5 : w.cell? ⟨b, off + 5, none⟩ = some (.int .i64 t.r)
  c6 : w.cell? ⟨b, off + 6, none⟩ = some (.int .i64 t.eb)
  c7 : w.cell? ⟨b, off + 7, none⟩ = some (.int .i64 t.ey)
  c8 : w.cell? ⟨b, off + 8, none⟩ = some (.int .i64 t.em)
structure CA.Wf (x : CA) : Prop where
  o : (Lit.int .i64 x.o).wf = true
  t : (Lit.int .i64 x.t).wf = true
  b : (Lit.int .i64 x.b).wf = true
  n : (Lit.int .i64 x.n).wf = true
  r : (Lit.int .i64 x.r).wf = true
  eb : (Lit.int .i64 x.eb).wf = true
  ey : (Lit.int .i64 x.ey).wf = true
  em : (Lit.int .i64 x.em).wf = true
/-- so many laid one behind another -/
def CActs (w : World) (b off len : Nat) : Prop := ∀ i, i < len → ∃ t, CAAt w b (off + i * 9) t ∧ t.Wf
theorem CActs.below {w w' : World} {b off len B : Nat} (h : CActs w b off len) (hB : Below B w w') (hb : b < B) : CActs w' b off len := fun i hi => by
  obtain ⟨t, a, f⟩ := h i hi
  have e : ∀ k, w'.cell? ⟨b, k, none⟩ = w.cell? ⟨b, k, none⟩ := fun k => hB.cell (p := ⟨b, k, none⟩) hb
  exact ⟨t, ⟨(e _).trans a.c0, (e _).trans a.c1, (e _).trans a.c2, (e _).trans a.c3, (e _).trans a.c4, (e _).trans a.c5, (e _).trans a.c6, (e _).trans a.c7, (e _).trans a.c8⟩, f⟩
/-- empty, or so many one behind another -/
def IsCActs (W : World) (a : Option Addr) (len cap : Nat) : Prop :=
  (len = 0) ∨ ∃ (b off : Nat), a = some ⟨b, off, none⟩ ∧ b < W.heap.size ∧ len ≤ cap ∧ cap ≤ 9223372036854775807 ∧ CActs W b off len
set_option maxRecDepth 100000 in
theorem cacts_of {H : Type} {enc : TypeId × Value → H} {W : World} {a : Option Addr} {len cap : Nat} {d : DataW H} {p : List MemPlace}
    (h : DataW.Trod enc Tryz.prog W 0 (fun _ => true) true 39 (.slice a len cap) d p) : IsCActs W a len cap := by
  obtain ⟨fuel, hf⟩ := h
  rcases Nat.eq_zero_or_pos len with h0 | h0
  · exact .inl h0
  rcases Deep.open_slice Tryz.underlying39 hf with ⟨hcs, _⟩ | ⟨x, l, c, m, n, D, Pl, hcs, _, hl, hm, hmm, _, hx⟩
  · simp [Value.cells] at hcs
    omega
  · simp [Value.cells] at hcs
    obtain ⟨rfl, rfl, rfl⟩ := hcs
    have hm' : m = cap := by simpa using hmm
    subst hm'
    have each : ∀ i, i < m → ∃ t : CA, (W.cell? (x.add (i * 9)) = some (.string t.K) ∧ W.cell? (x.add (i * 9 + 1)) = some (.int .i64 t.o) ∧ W.cell? (x.add (i * 9 + 2)) = some (.int .i64 t.t) ∧ W.cell? (x.add (i * 9 + 3)) = some (.int .i64 t.b) ∧ W.cell? (x.add (i * 9 + 4)) = some (.int .i64 t.n) ∧ W.cell? (x.add (i * 9 + 5)) = some (.int .i64 t.r) ∧ W.cell? (x.add (i * 9 + 6)) = some (.int .i64 t.eb) ∧ W.cell? (x.add (i * 9 + 7)) = some (.int .i64 t.ey) ∧ W.cell? (x.add (i * 9 + 8)) = some (.int .i64 t.em)) ∧ t.Wf := by
      intro i hi
      obtain ⟨cs', h1, h2⟩ := hx i hi
      rw [Tryz.cellsAct9] at h1
      obtain ⟨_, hlen, hcell⟩ := World.cells?_some h1
      obtain ⟨xs, k, hk, hxy, _, hxl, hf'⟩ := DataW.trod_struct Tryz.underlying44 h2
      match xs, hxl, cs', hlen with
      | [y0, y1, y2, y3, y4, y5, y6], _, [v0, v1, v2, v3, v4, v5, v6, v7, v8], _ =>
        have g0 := hf' 0 _ rfl
        have g1 := hf' 1 _ rfl
        have g2 := hf' 2 _ rfl
        have g3 := hf' 3 _ rfl
        have g4 := hf' 4 _ rfl
        have g5 := hf' 5 _ rfl
        have g6 := hf' 6 _ rfl
        simp [Tryz.cellsInt9, Tryz.cellsEv9, Tryz.cellsString9] at g0 g1 g2 g3 g4 g5 g6
        obtain ⟨u0, e0, _, _⟩ := DataW.trod_string Tryz.underlying9 g0
        obtain ⟨u1, e1, _, w1⟩ := DataW.trod_int Tryz.underlying3 g1
        obtain ⟨u2, e2, _, w2⟩ := DataW.trod_int Tryz.underlying3 g2
        obtain ⟨u3, e3, _, w3⟩ := DataW.trod_int Tryz.underlying3 g3
        obtain ⟨u4, e4, _, w4⟩ := DataW.trod_int Tryz.underlying3 g4
        obtain ⟨u5, e5, _, w5⟩ := DataW.trod_int Tryz.underlying3 g5
        obtain ⟨zs, k', _, _, _, hzl, hz⟩ := DataW.trod_struct Tryz.underlying42 g6
        match zs, hzl with
        | [z0, z1, z2], _ =>
          have i0 := hz 0 _ rfl
          have i1 := hz 1 _ rfl
          have i2 := hz 2 _ rfl
          simp [Tryz.cellsInt9] at i0 i1 i2
          obtain ⟨u6, e6, _, w6⟩ := DataW.trod_int Tryz.underlying3 i0
          obtain ⟨u7, e7, _, w7⟩ := DataW.trod_int Tryz.underlying3 i1
          obtain ⟨u8, e8, _, w8⟩ := DataW.trod_int Tryz.underlying3 i2
          have c0 := hcell 0 (by omega)
          have c1 := hcell 1 (by omega)
          have c2 := hcell 2 (by omega)
          have c3 := hcell 3 (by omega)
          have c4 := hcell 4 (by omega)
          have c5 := hcell 5 (by omega)
          have c6 := hcell 6 (by omega)
          have c7 := hcell 7 (by omega)
          have c8 := hcell 8 (by omega)
          rw [Deep.add_add] at c0 c1 c2 c3 c4 c5 c6 c7 c8
          simp at e0 e1 e2 e3 e4 e5 e6 e7 e8
          subst e0 e1 e2 e3 e4 e5 e6 e7 e8
          exact ⟨⟨u0, u1, u2, u3, u4, u5, u6, u7, u8⟩, ⟨by simpa using c0, by simpa using c1, by simpa using c2, by simpa using c3, by simpa using c4, by simpa using c5, by simpa using c6, by simpa using c7, by simpa using c8⟩, w1, w2, w3, w4, w5, w6, w7, w8⟩
    obtain ⟨b, off, spot⟩ := x
    have hc0 := (each 0 (by omega)).choose_spec.1.1
    have hspot : spot = none := by simpa [Addr.add] using World.cell?_spot hc0
    subst hspot
    refine .inr ⟨b, off, rfl, cell_lt hc0, hl, hm, fun i hi => ?_⟩
    obtain ⟨t, ⟨c0, c1, c2, c3, c4, c5, c6, c7, c8⟩, f⟩ := each i (by omega)
    rw [add_plain] at c0 c1 c2 c3 c4 c5 c6 c7 c8
    rw [← Nat.add_assoc] at c1 c2 c3 c4 c5 c6 c7 c8
    exact ⟨t, ⟨c0, c1, c2, c3, c4, c5, c6, c7, c8⟩, f⟩
end Go.Proofs.YtaihcceobnfmhaaGreatDoor

namespace Go.Proofs.YtaihcceobnfmhaaGreatDoor
open Go.RowKit

theorem Ch.Fit.few {C : Ch} {i : Nat} (h : C.Fit i) (hi : i ≤ 400) : C.Few := by
  have := h.y
  have := h.v
  exact ⟨Nat.le_trans h.k hi, Nat.le_trans h.l hi, by omega, by omega⟩
/-- an act's end: what it minted, what the chain became -/
def DoEnd (F : Nat → Prop) (cb g : Nat) (C : Ch) (i : Nat) (w : World) (e : Ending) (w' : World) : Prop := ∃ n C' F' g', e = .returned (.int .i64 n) ∧ C.Went C' n i ∧ g' ≤ g + 2000 ∧ PCh F' w' cb C' g' ∧ Moved F F' w w'
set_option maxRecDepth 100000 in
theorem bakeTurn_no (F : Nat → Prop) (cb : Nat) (C : Ch) (hC : C.Ok) (hb : C.Few) (g : Nat) (r : Int) (hr : ¬ TurnOk C.cyc C.lev r) (A : Nat → Addr) (w : World) (hL : ChLaid w A) (h : PCh F w cb C g) :
    Calls Tryz.prog 38 #[.pointer (some ⟨cb, 0, none⟩), .int .i64 r] w fun e w' => ∃ ev, e = .returned (.tuple #[.int .i64 0, .int .i64 0, ev]) ∧ Below w.heap.size w w' := by
  go_enter Tryz.func38, Tryz.ntmps38
  go_wp2_with fail
  refine (pch_turn_bad F cb C hC hb g r hr A w hL h).mono ?_
  rintro e w1 ⟨ev, rfl, hE, hB1⟩
  obtain ⟨j, rfl⟩ := hE.err (by decide)
  clear hE
  go_wp2_with fail
  go_ret3
  exact ⟨_, rfl, hB1⟩
set_option maxRecDepth 100000 in
set_option maxHeartbeats 2000000 in
theorem do_pay (F : Nat → Prop) (cb : Nat) (C : Ch) (hC : C.Ok) (i : Nat) (hi : i ≤ 400) (hf : C.Fit i) (g : Nat) (hg : g ≤ 850000) (t : CA) (wf : t.Wf) (A : Nat → Addr) (w : World) (hL : ChLaid w A) (h : PCh F w cb C g) (ty : (t.K.toList == [112, 97, 121]) = true) :
    Calls Tryz.prog 20 #[.pointer (some ⟨cb, 0, none⟩), .agg #[.string t.K, .int .i64 t.o, .int .i64 t.t, .int .i64 t.b, .int .i64 t.n, .int .i64 t.r, .int .i64 t.eb, .int .i64 t.ey, .int .i64 t.em]] w (DoEnd F cb g C i w) := by
  have s0 : (w.alloc (.cells #[.string t.K, .int .i64 t.o, .int .i64 t.t, .int .i64 t.b, .int .i64 t.n, .int .i64 t.r, .int .i64 t.eb, .int .i64 t.ey, .int .i64 t.em] 44)).cell? ⟨w.heap.size, 0, none⟩ = some (.string t.K) := by simp
  have s1 : (w.alloc (.cells #[.string t.K, .int .i64 t.o, .int .i64 t.t, .int .i64 t.b, .int .i64 t.n, .int .i64 t.r, .int .i64 t.eb, .int .i64 t.ey, .int .i64 t.em] 44)).cell? ⟨w.heap.size, 1, none⟩ = some (.int .i64 t.o) := by simp
  have s2 : (w.alloc (.cells #[.string t.K, .int .i64 t.o, .int .i64 t.t, .int .i64 t.b, .int .i64 t.n, .int .i64 t.r, .int .i64 t.eb, .int .i64 t.ey, .int .i64 t.em] 44)).cell? ⟨w.heap.size, 2, none⟩ = some (.int .i64 t.t) := by simp
  have s4 : (w.alloc (.cells #[.string t.K, .int .i64 t.o, .int .i64 t.t, .int .i64 t.b, .int .i64 t.n, .int .i64 t.r, .int .i64 t.eb, .int .i64 t.ey, .int .i64 t.em] 44)).cell? ⟨w.heap.size, 4, none⟩ = some (.int .i64 t.n) := by simp
  have hB4 : Below w.heap.size w (w.alloc (.cells #[.string t.K, .int .i64 t.o, .int .i64 t.t, .int .i64 t.b, .int .i64 t.n, .int .i64 t.r, .int .i64 t.eb, .int .i64 t.ey, .int .i64 t.em] 44)) := (Below.refl _ _).alloc (Nat.le_refl _) _
  have h4 := h.nextB hB4
  have L4 := hL.below hB4
  have few := hf.few hi
  have M4 : Moved F F w (w.alloc (.cells #[.string t.K, .int .i64 t.o, .int .i64 t.t, .int .i64 t.b, .int .i64 t.n, .int .i64 t.r, .int .i64 t.eb, .int .i64 t.ey, .int .i64 t.em] 44)) := ⟨KeptP.of_below hB4, fun _ _ g => g⟩
  clear h hB4 hL
  go_enter Tryz.func20, Tryz.ntmps20
  go_wp2_with fail
  generalize w.heap.size = na at *
  generalize w.alloc (.cells #[.string t.K, .int .i64 t.o, .int .i64 t.t, .int .i64 t.b, .int .i64 t.n, .int .i64 t.r, .int .i64 t.eb, .int .i64 t.ey, .int .i64 t.em] 44) = w4 at *
  refine (pch_pay F cb C hC few g hg t.o t.t t.n wf.o wf.t A w4 L4 h4).mono ?_
  rintro e w5 ⟨ev, F5, rfl, hE5, h5, hM5⟩
  go_wp2_with fail
  go_ret
  exact ⟨0, _, F5, g + 2000, rfl, .pay hC hf t.o t.t t.n, Nat.le_refl _, h5, M4.trans hM5⟩
set_option maxRecDepth 100000 in
set_option maxHeartbeats 2000000 in
theorem do_stake (F : Nat → Prop) (cb : Nat) (C : Ch) (hC : C.Ok) (i : Nat) (hi : i ≤ 400) (hf : C.Fit i) (g : Nat) (hg : g ≤ 850000) (t : CA) (wf : t.Wf) (A : Nat → Addr) (w : World) (hL : ChLaid w A) (h : PCh F w cb C g) (t0 : (t.K.toList == [112, 97, 121]) = false) (ty : (t.K.toList == [115, 116, 97, 107, 101]) = true) :
    Calls Tryz.prog 20 #[.pointer (some ⟨cb, 0, none⟩), .agg #[.string t.K, .int .i64 t.o, .int .i64 t.t, .int .i64 t.b, .int .i64 t.n, .int .i64 t.r, .int .i64 t.eb, .int .i64 t.ey, .int .i64 t.em]] w (DoEnd F cb g C i w) := by
  have s0 : (w.alloc (.cells #[.string t.K, .int .i64 t.o, .int .i64 t.t, .int .i64 t.b, .int .i64 t.n, .int .i64 t.r, .int .i64 t.eb, .int .i64 t.ey, .int .i64 t.em] 44)).cell? ⟨w.heap.size, 0, none⟩ = some (.string t.K) := by simp
  have s1 : (w.alloc (.cells #[.string t.K, .int .i64 t.o, .int .i64 t.t, .int .i64 t.b, .int .i64 t.n, .int .i64 t.r, .int .i64 t.eb, .int .i64 t.ey, .int .i64 t.em] 44)).cell? ⟨w.heap.size, 1, none⟩ = some (.int .i64 t.o) := by simp
  have s3 : (w.alloc (.cells #[.string t.K, .int .i64 t.o, .int .i64 t.t, .int .i64 t.b, .int .i64 t.n, .int .i64 t.r, .int .i64 t.eb, .int .i64 t.ey, .int .i64 t.em] 44)).cell? ⟨w.heap.size, 3, none⟩ = some (.int .i64 t.b) := by simp
  have s4 : (w.alloc (.cells #[.string t.K, .int .i64 t.o, .int .i64 t.t, .int .i64 t.b, .int .i64 t.n, .int .i64 t.r, .int .i64 t.eb, .int .i64 t.ey, .int .i64 t.em] 44)).cell? ⟨w.heap.size, 4, none⟩ = some (.int .i64 t.n) := by simp
  have hB4 : Below w.heap.size w (w.alloc (.cells #[.string t.K, .int .i64 t.o, .int .i64 t.t, .int .i64 t.b, .int .i64 t.n, .int .i64 t.r, .int .i64 t.eb, .int .i64 t.ey, .int .i64 t.em] 44)) := (Below.refl _ _).alloc (Nat.le_refl _) _
  have h4 := h.nextB hB4
  have L4 := hL.below hB4
  have few := hf.few hi
  have M4 : Moved F F w (w.alloc (.cells #[.string t.K, .int .i64 t.o, .int .i64 t.t, .int .i64 t.b, .int .i64 t.n, .int .i64 t.r, .int .i64 t.eb, .int .i64 t.ey, .int .i64 t.em] 44)) := ⟨KeptP.of_below hB4, fun _ _ g => g⟩
  clear h hB4 hL
  go_enter Tryz.func20, Tryz.ntmps20
  go_wp2_with fail
  generalize w.heap.size = na at *
  generalize w.alloc (.cells #[.string t.K, .int .i64 t.o, .int .i64 t.t, .int .i64 t.b, .int .i64 t.n, .int .i64 t.r, .int .i64 t.eb, .int .i64 t.ey, .int .i64 t.em] 44) = w4 at *
  refine (pch_stake F cb C hC few g hg t.o t.b t.n wf.o A w4 L4 h4).mono ?_
  rintro e w5 ⟨ev, F5, rfl, hE5, h5, hM5⟩
  go_wp2_with fail
  go_ret
  exact ⟨0, _, F5, g + 2000, rfl, .stake hC hf t.o t.b t.n, Nat.le_refl _, h5, M4.trans hM5⟩
set_option maxRecDepth 100000 in
set_option maxHeartbeats 2000000 in
theorem do_unstake (F : Nat → Prop) (cb : Nat) (C : Ch) (hC : C.Ok) (i : Nat) (hi : i ≤ 400) (hf : C.Fit i) (g : Nat) (hg : g ≤ 850000) (t : CA) (wf : t.Wf) (A : Nat → Addr) (w : World) (hL : ChLaid w A) (h : PCh F w cb C g) (t0 : (t.K.toList == [112, 97, 121]) = false) (t1 : (t.K.toList == [115, 116, 97, 107, 101]) = false) (ty : (t.K.toList == [117, 110, 115, 116, 97, 107, 101]) = true) :
    Calls Tryz.prog 20 #[.pointer (some ⟨cb, 0, none⟩), .agg #[.string t.K, .int .i64 t.o, .int .i64 t.t, .int .i64 t.b, .int .i64 t.n, .int .i64 t.r, .int .i64 t.eb, .int .i64 t.ey, .int .i64 t.em]] w (DoEnd F cb g C i w) := by
  have s0 : (w.alloc (.cells #[.string t.K, .int .i64 t.o, .int .i64 t.t, .int .i64 t.b, .int .i64 t.n, .int .i64 t.r, .int .i64 t.eb, .int .i64 t.ey, .int .i64 t.em] 44)).cell? ⟨w.heap.size, 0, none⟩ = some (.string t.K) := by simp
  have s1 : (w.alloc (.cells #[.string t.K, .int .i64 t.o, .int .i64 t.t, .int .i64 t.b, .int .i64 t.n, .int .i64 t.r, .int .i64 t.eb, .int .i64 t.ey, .int .i64 t.em] 44)).cell? ⟨w.heap.size, 1, none⟩ = some (.int .i64 t.o) := by simp
  have s3 : (w.alloc (.cells #[.string t.K, .int .i64 t.o, .int .i64 t.t, .int .i64 t.b, .int .i64 t.n, .int .i64 t.r, .int .i64 t.eb, .int .i64 t.ey, .int .i64 t.em] 44)).cell? ⟨w.heap.size, 3, none⟩ = some (.int .i64 t.b) := by simp
  have s4 : (w.alloc (.cells #[.string t.K, .int .i64 t.o, .int .i64 t.t, .int .i64 t.b, .int .i64 t.n, .int .i64 t.r, .int .i64 t.eb, .int .i64 t.ey, .int .i64 t.em] 44)).cell? ⟨w.heap.size, 4, none⟩ = some (.int .i64 t.n) := by simp
  have hB4 : Below w.heap.size w (w.alloc (.cells #[.string t.K, .int .i64 t.o, .int .i64 t.t, .int .i64 t.b, .int .i64 t.n, .int .i64 t.r, .int .i64 t.eb, .int .i64 t.ey, .int .i64 t.em] 44)) := (Below.refl _ _).alloc (Nat.le_refl _) _
  have h4 := h.nextB hB4
  have L4 := hL.below hB4
  have few := hf.few hi
  have M4 : Moved F F w (w.alloc (.cells #[.string t.K, .int .i64 t.o, .int .i64 t.t, .int .i64 t.b, .int .i64 t.n, .int .i64 t.r, .int .i64 t.eb, .int .i64 t.ey, .int .i64 t.em] 44)) := ⟨KeptP.of_below hB4, fun _ _ g => g⟩
  clear h hB4 hL
  go_enter Tryz.func20, Tryz.ntmps20
  go_wp2_with fail
  generalize w.heap.size = na at *
  generalize w.alloc (.cells #[.string t.K, .int .i64 t.o, .int .i64 t.t, .int .i64 t.b, .int .i64 t.n, .int .i64 t.r, .int .i64 t.eb, .int .i64 t.ey, .int .i64 t.em] 44) = w4 at *
  refine (pch_unstake F cb C hC few g hg t.o t.b t.n wf.o A w4 L4 h4).mono ?_
  rintro e w5 ⟨ev, F5, rfl, hE5, h5, hM5⟩
  go_wp2_with fail
  go_ret
  exact ⟨0, _, F5, g + 2000, rfl, .unstake hC hf t.o t.b t.n, Nat.le_refl _, h5, M4.trans hM5⟩
set_option maxRecDepth 100000 in
set_option maxHeartbeats 2000000 in
theorem do_free (F : Nat → Prop) (cb : Nat) (C : Ch) (hC : C.Ok) (i : Nat) (hi : i ≤ 400) (hf : C.Fit i) (g : Nat) (hg : g ≤ 850000) (t : CA) (wf : t.Wf) (A : Nat → Addr) (w : World) (hL : ChLaid w A) (h : PCh F w cb C g) (t0 : (t.K.toList == [112, 97, 121]) = false) (t1 : (t.K.toList == [115, 116, 97, 107, 101]) = false) (t2 : (t.K.toList == [117, 110, 115, 116, 97, 107, 101]) = false) (ty : (t.K.toList == [102, 114, 101, 101]) = true) :
    Calls Tryz.prog 20 #[.pointer (some ⟨cb, 0, none⟩), .agg #[.string t.K, .int .i64 t.o, .int .i64 t.t, .int .i64 t.b, .int .i64 t.n, .int .i64 t.r, .int .i64 t.eb, .int .i64 t.ey, .int .i64 t.em]] w (DoEnd F cb g C i w) := by
  have s0 : (w.alloc (.cells #[.string t.K, .int .i64 t.o, .int .i64 t.t, .int .i64 t.b, .int .i64 t.n, .int .i64 t.r, .int .i64 t.eb, .int .i64 t.ey, .int .i64 t.em] 44)).cell? ⟨w.heap.size, 0, none⟩ = some (.string t.K) := by simp
  have s1 : (w.alloc (.cells #[.string t.K, .int .i64 t.o, .int .i64 t.t, .int .i64 t.b, .int .i64 t.n, .int .i64 t.r, .int .i64 t.eb, .int .i64 t.ey, .int .i64 t.em] 44)).cell? ⟨w.heap.size, 1, none⟩ = some (.int .i64 t.o) := by simp
  have hB4 : Below w.heap.size w (w.alloc (.cells #[.string t.K, .int .i64 t.o, .int .i64 t.t, .int .i64 t.b, .int .i64 t.n, .int .i64 t.r, .int .i64 t.eb, .int .i64 t.ey, .int .i64 t.em] 44)) := (Below.refl _ _).alloc (Nat.le_refl _) _
  have h4 := h.nextB hB4
  have L4 := hL.below hB4
  have few := hf.few hi
  have M4 : Moved F F w (w.alloc (.cells #[.string t.K, .int .i64 t.o, .int .i64 t.t, .int .i64 t.b, .int .i64 t.n, .int .i64 t.r, .int .i64 t.eb, .int .i64 t.ey, .int .i64 t.em] 44)) := ⟨KeptP.of_below hB4, fun _ _ g => g⟩
  clear h hB4 hL
  go_enter Tryz.func20, Tryz.ntmps20
  go_wp2_with fail
  generalize w.heap.size = na at *
  generalize w.alloc (.cells #[.string t.K, .int .i64 t.o, .int .i64 t.t, .int .i64 t.b, .int .i64 t.n, .int .i64 t.r, .int .i64 t.eb, .int .i64 t.ey, .int .i64 t.em] 44) = w4 at *
  refine (pch_free F cb C hC few g hg t.o wf.o A w4 L4 h4).mono ?_
  rintro e w5 ⟨ev, F5, rfl, hE5, h5, hM5⟩
  go_wp2_with fail
  go_ret
  exact ⟨0, _, F5, g + 2000, rfl, .free hC hf t.o, Nat.le_refl _, h5, M4.trans hM5⟩
set_option maxRecDepth 100000 in
set_option maxHeartbeats 2000000 in
theorem do_accuse (F : Nat → Prop) (cb : Nat) (C : Ch) (hC : C.Ok) (i : Nat) (hi : i ≤ 400) (hf : C.Fit i) (g : Nat) (hg : g ≤ 850000) (t : CA) (wf : t.Wf) (A : Nat → Addr) (w : World) (hL : ChLaid w A) (h : PCh F w cb C g) (t0 : (t.K.toList == [112, 97, 121]) = false) (t1 : (t.K.toList == [115, 116, 97, 107, 101]) = false) (t2 : (t.K.toList == [117, 110, 115, 116, 97, 107, 101]) = false) (t3 : (t.K.toList == [102, 114, 101, 101]) = false) (ty : (t.K.toList == [97, 99, 99, 117, 115, 101]) = true) :
    Calls Tryz.prog 20 #[.pointer (some ⟨cb, 0, none⟩), .agg #[.string t.K, .int .i64 t.o, .int .i64 t.t, .int .i64 t.b, .int .i64 t.n, .int .i64 t.r, .int .i64 t.eb, .int .i64 t.ey, .int .i64 t.em]] w (DoEnd F cb g C i w) := by
  have s0 : (w.alloc (.cells #[.string t.K, .int .i64 t.o, .int .i64 t.t, .int .i64 t.b, .int .i64 t.n, .int .i64 t.r, .int .i64 t.eb, .int .i64 t.ey, .int .i64 t.em] 44)).cell? ⟨w.heap.size, 0, none⟩ = some (.string t.K) := by simp
  have s1 : (w.alloc (.cells #[.string t.K, .int .i64 t.o, .int .i64 t.t, .int .i64 t.b, .int .i64 t.n, .int .i64 t.r, .int .i64 t.eb, .int .i64 t.ey, .int .i64 t.em] 44)).cell? ⟨w.heap.size, 1, none⟩ = some (.int .i64 t.o) := by simp
  have s6 : (w.alloc (.cells #[.string t.K, .int .i64 t.o, .int .i64 t.t, .int .i64 t.b, .int .i64 t.n, .int .i64 t.r, .int .i64 t.eb, .int .i64 t.ey, .int .i64 t.em] 44)).cell? ⟨w.heap.size, 6, none⟩ = some (.int .i64 t.eb) := by simp
  have s7 : (w.alloc (.cells #[.string t.K, .int .i64 t.o, .int .i64 t.t, .int .i64 t.b, .int .i64 t.n, .int .i64 t.r, .int .i64 t.eb, .int .i64 t.ey, .int .i64 t.em] 44)).cell? ⟨w.heap.size, 7, none⟩ = some (.int .i64 t.ey) := by simp
  have s8 : (w.alloc (.cells #[.string t.K, .int .i64 t.o, .int .i64 t.t, .int .i64 t.b, .int .i64 t.n, .int .i64 t.r, .int .i64 t.eb, .int .i64 t.ey, .int .i64 t.em] 44)).cell? ⟨w.heap.size, 8, none⟩ = some (.int .i64 t.em) := by simp
  have hB4 : Below w.heap.size w (w.alloc (.cells #[.string t.K, .int .i64 t.o, .int .i64 t.t, .int .i64 t.b, .int .i64 t.n, .int .i64 t.r, .int .i64 t.eb, .int .i64 t.ey, .int .i64 t.em] 44)) := (Below.refl _ _).alloc (Nat.le_refl _) _
  have h4 := h.nextB hB4
  have L4 := hL.below hB4
  have few := hf.few hi
  have M4 : Moved F F w (w.alloc (.cells #[.string t.K, .int .i64 t.o, .int .i64 t.t, .int .i64 t.b, .int .i64 t.n, .int .i64 t.r, .int .i64 t.eb, .int .i64 t.ey, .int .i64 t.em] 44)) := ⟨KeptP.of_below hB4, fun _ _ g => g⟩
  clear h hB4 hL
  go_enter Tryz.func20, Tryz.ntmps20
  go_wp2_with fail
  generalize w.heap.size = na at *
  generalize w.alloc (.cells #[.string t.K, .int .i64 t.o, .int .i64 t.t, .int .i64 t.b, .int .i64 t.n, .int .i64 t.r, .int .i64 t.eb, .int .i64 t.ey, .int .i64 t.em] 44) = w4 at *
  refine (pch_accuse F cb C hC few g hg t.o t.eb t.ey t.em wf.o wf.eb wf.ey wf.em A w4 L4 h4).mono ?_
  rintro e w5 ⟨ev, F5, rfl, hE5, h5, hM5⟩
  go_wp2_with fail
  go_ret
  exact ⟨0, _, F5, g + 2000, rfl, .accuse hC hf t.o (t.eb, t.ey, t.em), Nat.le_refl _, h5, M4.trans hM5⟩
set_option maxRecDepth 100000 in
set_option maxHeartbeats 2000000 in
theorem do_bake_bad (F : Nat → Prop) (cb : Nat) (C : Ch) (hC : C.Ok) (i : Nat) (hi : i ≤ 400) (hf : C.Fit i) (g : Nat) (_hg : g ≤ 850000) (t : CA) (_wf : t.Wf) (A : Nat → Addr) (w : World) (hL : ChLaid w A) (h : PCh F w cb C g) (t0 : (t.K.toList == [112, 97, 121]) = false) (t1 : (t.K.toList == [115, 116, 97, 107, 101]) = false) (t2 : (t.K.toList == [117, 110, 115, 116, 97, 107, 101]) = false) (t3 : (t.K.toList == [102, 114, 101, 101]) = false) (t4 : (t.K.toList == [97, 99, 99, 117, 115, 101]) = false) (ty : (t.K.toList == [98, 97, 107, 101]) = true) (hr : ¬ TurnOk C.cyc C.lev t.r) :
    Calls Tryz.prog 20 #[.pointer (some ⟨cb, 0, none⟩), .agg #[.string t.K, .int .i64 t.o, .int .i64 t.t, .int .i64 t.b, .int .i64 t.n, .int .i64 t.r, .int .i64 t.eb, .int .i64 t.ey, .int .i64 t.em]] w (DoEnd F cb g C i w) := by
  have s0 : (w.alloc (.cells #[.string t.K, .int .i64 t.o, .int .i64 t.t, .int .i64 t.b, .int .i64 t.n, .int .i64 t.r, .int .i64 t.eb, .int .i64 t.ey, .int .i64 t.em] 44)).cell? ⟨w.heap.size, 0, none⟩ = some (.string t.K) := by simp
  have s3 : (w.alloc (.cells #[.string t.K, .int .i64 t.o, .int .i64 t.t, .int .i64 t.b, .int .i64 t.n, .int .i64 t.r, .int .i64 t.eb, .int .i64 t.ey, .int .i64 t.em] 44)).cell? ⟨w.heap.size, 3, none⟩ = some (.int .i64 t.b) := by simp
  have s5 : (w.alloc (.cells #[.string t.K, .int .i64 t.o, .int .i64 t.t, .int .i64 t.b, .int .i64 t.n, .int .i64 t.r, .int .i64 t.eb, .int .i64 t.ey, .int .i64 t.em] 44)).cell? ⟨w.heap.size, 5, none⟩ = some (.int .i64 t.r) := by simp
  have hB4 : Below w.heap.size w (w.alloc (.cells #[.string t.K, .int .i64 t.o, .int .i64 t.t, .int .i64 t.b, .int .i64 t.n, .int .i64 t.r, .int .i64 t.eb, .int .i64 t.ey, .int .i64 t.em] 44)) := (Below.refl _ _).alloc (Nat.le_refl _) _
  have h4 := h.nextB hB4
  have L4 := hL.below hB4
  have few := hf.few hi
  have M4 : Moved F F w (w.alloc (.cells #[.string t.K, .int .i64 t.o, .int .i64 t.t, .int .i64 t.b, .int .i64 t.n, .int .i64 t.r, .int .i64 t.eb, .int .i64 t.ey, .int .i64 t.em] 44)) := ⟨KeptP.of_below hB4, fun _ _ g => g⟩
  clear h hB4 hL
  go_enter Tryz.func20, Tryz.ntmps20
  go_wp2_with fail
  generalize w.heap.size = na at *
  generalize w.alloc (.cells #[.string t.K, .int .i64 t.o, .int .i64 t.t, .int .i64 t.b, .int .i64 t.n, .int .i64 t.r, .int .i64 t.eb, .int .i64 t.ey, .int .i64 t.em] 44) = w4 at *
  refine (pch_bake_bad F cb C hC few g t.b t.r hr A w4 L4 h4).mono ?_
  rintro e w5 ⟨ev, F5, rfl, hE5, h5, hM5⟩
  go_wp2_with fail
  go_ret
  exact ⟨0, _, F5, g + 2000, rfl, .same hC hf, Nat.le_refl _, h5, M4.trans hM5⟩
set_option maxRecDepth 100000 in
set_option maxHeartbeats 2000000 in
theorem do_bake_other (F : Nat → Prop) (cb : Nat) (C : Ch) (hC : C.Ok) (i : Nat) (hi : i ≤ 400) (hf : C.Fit i) (g : Nat) (_hg : g ≤ 850000) (t : CA) (_wf : t.Wf) (A : Nat → Addr) (w : World) (hL : ChLaid w A) (h : PCh F w cb C g) (t0 : (t.K.toList == [112, 97, 121]) = false) (t1 : (t.K.toList == [115, 116, 97, 107, 101]) = false) (t2 : (t.K.toList == [117, 110, 115, 116, 97, 107, 101]) = false) (t3 : (t.K.toList == [102, 114, 101, 101]) = false) (t4 : (t.K.toList == [97, 99, 99, 117, 115, 101]) = false) (ty : (t.K.toList == [98, 97, 107, 101]) = true) (hr : TurnOk C.cyc C.lev t.r) (T : ∀ k, Turn 3 C.pic C.seed C.cyc C.lev t.r k → k ≠ t.b) :
    Calls Tryz.prog 20 #[.pointer (some ⟨cb, 0, none⟩), .agg #[.string t.K, .int .i64 t.o, .int .i64 t.t, .int .i64 t.b, .int .i64 t.n, .int .i64 t.r, .int .i64 t.eb, .int .i64 t.ey, .int .i64 t.em]] w (DoEnd F cb g C i w) := by
  have s0 : (w.alloc (.cells #[.string t.K, .int .i64 t.o, .int .i64 t.t, .int .i64 t.b, .int .i64 t.n, .int .i64 t.r, .int .i64 t.eb, .int .i64 t.ey, .int .i64 t.em] 44)).cell? ⟨w.heap.size, 0, none⟩ = some (.string t.K) := by simp
  have s3 : (w.alloc (.cells #[.string t.K, .int .i64 t.o, .int .i64 t.t, .int .i64 t.b, .int .i64 t.n, .int .i64 t.r, .int .i64 t.eb, .int .i64 t.ey, .int .i64 t.em] 44)).cell? ⟨w.heap.size, 3, none⟩ = some (.int .i64 t.b) := by simp
  have s5 : (w.alloc (.cells #[.string t.K, .int .i64 t.o, .int .i64 t.t, .int .i64 t.b, .int .i64 t.n, .int .i64 t.r, .int .i64 t.eb, .int .i64 t.ey, .int .i64 t.em] 44)).cell? ⟨w.heap.size, 5, none⟩ = some (.int .i64 t.r) := by simp
  have hB4 : Below w.heap.size w (w.alloc (.cells #[.string t.K, .int .i64 t.o, .int .i64 t.t, .int .i64 t.b, .int .i64 t.n, .int .i64 t.r, .int .i64 t.eb, .int .i64 t.ey, .int .i64 t.em] 44)) := (Below.refl _ _).alloc (Nat.le_refl _) _
  have h4 := h.nextB hB4
  have L4 := hL.below hB4
  have few := hf.few hi
  have M4 : Moved F F w (w.alloc (.cells #[.string t.K, .int .i64 t.o, .int .i64 t.t, .int .i64 t.b, .int .i64 t.n, .int .i64 t.r, .int .i64 t.eb, .int .i64 t.ey, .int .i64 t.em] 44)) := ⟨KeptP.of_below hB4, fun _ _ g => g⟩
  clear h hB4 hL
  go_enter Tryz.func20, Tryz.ntmps20
  go_wp2_with fail
  generalize w.heap.size = na at *
  generalize w.alloc (.cells #[.string t.K, .int .i64 t.o, .int .i64 t.t, .int .i64 t.b, .int .i64 t.n, .int .i64 t.r, .int .i64 t.eb, .int .i64 t.ey, .int .i64 t.em] 44) = w4 at *
  refine (pch_bake_other F cb C hC few g t.b t.r hr T A w4 L4 h4).mono ?_
  rintro e w5 ⟨ev, F5, rfl, hE5, h5, hM5⟩
  go_wp2_with fail
  go_ret
  exact ⟨0, _, F5, g + 2000, rfl, .same hC hf, Nat.le_refl _, h5, M4.trans hM5⟩
set_option maxRecDepth 100000 in
set_option maxHeartbeats 2000000 in
theorem do_bake_own (F : Nat → Prop) (cb : Nat) (C : Ch) (hC : C.Ok) (i : Nat) (hi : i ≤ 400) (hf : C.Fit i) (g : Nat) (hg : g ≤ 850000) (t : CA) (_wf : t.Wf) (A : Nat → Addr) (w : World) (hL : ChLaid w A) (h : PCh F w cb C g) (t0 : (t.K.toList == [112, 97, 121]) = false) (t1 : (t.K.toList == [115, 116, 97, 107, 101]) = false) (t2 : (t.K.toList == [117, 110, 115, 116, 97, 107, 101]) = false) (t3 : (t.K.toList == [102, 114, 101, 101]) = false) (t4 : (t.K.toList == [97, 99, 99, 117, 115, 101]) = false) (ty : (t.K.toList == [98, 97, 107, 101]) = true) (hr : TurnOk C.cyc C.lev t.r) (T : ∀ k, Turn 3 C.pic C.seed C.cyc C.lev t.r k → k = t.b) :
    Calls Tryz.prog 20 #[.pointer (some ⟨cb, 0, none⟩), .agg #[.string t.K, .int .i64 t.o, .int .i64 t.t, .int .i64 t.b, .int .i64 t.n, .int .i64 t.r, .int .i64 t.eb, .int .i64 t.ey, .int .i64 t.em]] w (DoEnd F cb g C i w) := by
  have s0 : (w.alloc (.cells #[.string t.K, .int .i64 t.o, .int .i64 t.t, .int .i64 t.b, .int .i64 t.n, .int .i64 t.r, .int .i64 t.eb, .int .i64 t.ey, .int .i64 t.em] 44)).cell? ⟨w.heap.size, 0, none⟩ = some (.string t.K) := by simp
  have s3 : (w.alloc (.cells #[.string t.K, .int .i64 t.o, .int .i64 t.t, .int .i64 t.b, .int .i64 t.n, .int .i64 t.r, .int .i64 t.eb, .int .i64 t.ey, .int .i64 t.em] 44)).cell? ⟨w.heap.size, 3, none⟩ = some (.int .i64 t.b) := by simp
  have s5 : (w.alloc (.cells #[.string t.K, .int .i64 t.o, .int .i64 t.t, .int .i64 t.b, .int .i64 t.n, .int .i64 t.r, .int .i64 t.eb, .int .i64 t.ey, .int .i64 t.em] 44)).cell? ⟨w.heap.size, 5, none⟩ = some (.int .i64 t.r) := by simp
  have hB4 : Below w.heap.size w (w.alloc (.cells #[.string t.K, .int .i64 t.o, .int .i64 t.t, .int .i64 t.b, .int .i64 t.n, .int .i64 t.r, .int .i64 t.eb, .int .i64 t.ey, .int .i64 t.em] 44)) := (Below.refl _ _).alloc (Nat.le_refl _) _
  have h4 := h.nextB hB4
  have L4 := hL.below hB4
  have few := hf.few hi
  have M4 : Moved F F w (w.alloc (.cells #[.string t.K, .int .i64 t.o, .int .i64 t.t, .int .i64 t.b, .int .i64 t.n, .int .i64 t.r, .int .i64 t.eb, .int .i64 t.ey, .int .i64 t.em] 44)) := ⟨KeptP.of_below hB4, fun _ _ g => g⟩
  clear h hB4 hL
  go_enter Tryz.func20, Tryz.ntmps20
  go_wp2_with fail
  generalize w.heap.size = na at *
  generalize w.alloc (.cells #[.string t.K, .int .i64 t.o, .int .i64 t.t, .int .i64 t.b, .int .i64 t.n, .int .i64 t.r, .int .i64 t.eb, .int .i64 t.ey, .int .i64 t.em] 44) = w4 at *
  refine (pch_bake_own F cb C hC few g hg t.b t.r hr T A w4 L4 h4).mono ?_
  rintro e w5 ⟨ev, F5, rfl, hE5, h5, hM5⟩
  go_wp2_with fail
  go_ret
  exact ⟨_, _, F5, g + 2000, rfl, .bake hC hf t.b, Nat.le_refl _, h5, M4.trans hM5⟩
set_option maxRecDepth 100000 in
set_option maxHeartbeats 2000000 in
theorem do_turn_no (F : Nat → Prop) (cb : Nat) (C : Ch) (hC : C.Ok) (i : Nat) (hi : i ≤ 400) (hf : C.Fit i) (g : Nat) (_hg : g ≤ 850000) (t : CA) (_wf : t.Wf) (A : Nat → Addr) (w : World) (hL : ChLaid w A) (h : PCh F w cb C g) (t0 : (t.K.toList == [112, 97, 121]) = false) (t1 : (t.K.toList == [115, 116, 97, 107, 101]) = false) (t2 : (t.K.toList == [117, 110, 115, 116, 97, 107, 101]) = false) (t3 : (t.K.toList == [102, 114, 101, 101]) = false) (t4 : (t.K.toList == [97, 99, 99, 117, 115, 101]) = false) (t5 : (t.K.toList == [98, 97, 107, 101]) = false) (hr : ¬ TurnOk C.cyc C.lev t.r) :
    Calls Tryz.prog 20 #[.pointer (some ⟨cb, 0, none⟩), .agg #[.string t.K, .int .i64 t.o, .int .i64 t.t, .int .i64 t.b, .int .i64 t.n, .int .i64 t.r, .int .i64 t.eb, .int .i64 t.ey, .int .i64 t.em]] w (DoEnd F cb g C i w) := by
  have s0 : (w.alloc (.cells #[.string t.K, .int .i64 t.o, .int .i64 t.t, .int .i64 t.b, .int .i64 t.n, .int .i64 t.r, .int .i64 t.eb, .int .i64 t.ey, .int .i64 t.em] 44)).cell? ⟨w.heap.size, 0, none⟩ = some (.string t.K) := by simp
  have s5 : (w.alloc (.cells #[.string t.K, .int .i64 t.o, .int .i64 t.t, .int .i64 t.b, .int .i64 t.n, .int .i64 t.r, .int .i64 t.eb, .int .i64 t.ey, .int .i64 t.em] 44)).cell? ⟨w.heap.size, 5, none⟩ = some (.int .i64 t.r) := by simp
  have hB4 : Below w.heap.size w (w.alloc (.cells #[.string t.K, .int .i64 t.o, .int .i64 t.t, .int .i64 t.b, .int .i64 t.n, .int .i64 t.r, .int .i64 t.eb, .int .i64 t.ey, .int .i64 t.em] 44)) := (Below.refl _ _).alloc (Nat.le_refl _) _
  have h4 := h.nextB hB4
  have L4 := hL.below hB4
  have few := hf.few hi
  have M4 : Moved F F w (w.alloc (.cells #[.string t.K, .int .i64 t.o, .int .i64 t.t, .int .i64 t.b, .int .i64 t.n, .int .i64 t.r, .int .i64 t.eb, .int .i64 t.ey, .int .i64 t.em] 44)) := ⟨KeptP.of_below hB4, fun _ _ g => g⟩
  clear h hB4 hL
  go_enter Tryz.func20, Tryz.ntmps20
  go_wp2_with fail
  generalize w.heap.size = na at *
  generalize w.alloc (.cells #[.string t.K, .int .i64 t.o, .int .i64 t.t, .int .i64 t.b, .int .i64 t.n, .int .i64 t.r, .int .i64 t.eb, .int .i64 t.ey, .int .i64 t.em] 44) = w4 at *
  refine (bakeTurn_no F cb C hC few g t.r hr A w4 L4 h4).mono ?_
  rintro e w5 ⟨ev, rfl, hB5⟩
  go_wp2_with fail
  go_ret
  exact ⟨0, C, F, g, rfl, .same hC hf, Nat.le_add_right _ _, h4.nextB hB5, M4.trans ⟨KeptP.of_below hB5, fun _ _ g => g⟩⟩
set_option maxRecDepth 100000 in
set_option maxHeartbeats 2000000 in
theorem do_turn_yes (F : Nat → Prop) (cb : Nat) (C : Ch) (hC : C.Ok) (i : Nat) (hi : i ≤ 400) (hf : C.Fit i) (g : Nat) (hg : g ≤ 850000) (t : CA) (_wf : t.Wf) (A : Nat → Addr) (w : World) (hL : ChLaid w A) (h : PCh F w cb C g) (t0 : (t.K.toList == [112, 97, 121]) = false) (t1 : (t.K.toList == [115, 116, 97, 107, 101]) = false) (t2 : (t.K.toList == [117, 110, 115, 116, 97, 107, 101]) = false) (t3 : (t.K.toList == [102, 114, 101, 101]) = false) (t4 : (t.K.toList == [97, 99, 99, 117, 115, 101]) = false) (t5 : (t.K.toList == [98, 97, 107, 101]) = false) (hr : TurnOk C.cyc C.lev t.r) :
    Calls Tryz.prog 20 #[.pointer (some ⟨cb, 0, none⟩), .agg #[.string t.K, .int .i64 t.o, .int .i64 t.t, .int .i64 t.b, .int .i64 t.n, .int .i64 t.r, .int .i64 t.eb, .int .i64 t.ey, .int .i64 t.em]] w (DoEnd F cb g C i w) := by
  have s0 : (w.alloc (.cells #[.string t.K, .int .i64 t.o, .int .i64 t.t, .int .i64 t.b, .int .i64 t.n, .int .i64 t.r, .int .i64 t.eb, .int .i64 t.ey, .int .i64 t.em] 44)).cell? ⟨w.heap.size, 0, none⟩ = some (.string t.K) := by simp
  have s5 : (w.alloc (.cells #[.string t.K, .int .i64 t.o, .int .i64 t.t, .int .i64 t.b, .int .i64 t.n, .int .i64 t.r, .int .i64 t.eb, .int .i64 t.ey, .int .i64 t.em] 44)).cell? ⟨w.heap.size, 5, none⟩ = some (.int .i64 t.r) := by simp
  have hB4 : Below w.heap.size w (w.alloc (.cells #[.string t.K, .int .i64 t.o, .int .i64 t.t, .int .i64 t.b, .int .i64 t.n, .int .i64 t.r, .int .i64 t.eb, .int .i64 t.ey, .int .i64 t.em] 44)) := (Below.refl _ _).alloc (Nat.le_refl _) _
  have h4 := h.nextB hB4
  have L4 := hL.below hB4
  have few := hf.few hi
  have M4 : Moved F F w (w.alloc (.cells #[.string t.K, .int .i64 t.o, .int .i64 t.t, .int .i64 t.b, .int .i64 t.n, .int .i64 t.r, .int .i64 t.eb, .int .i64 t.ey, .int .i64 t.em] 44)) := ⟨KeptP.of_below hB4, fun _ _ g => g⟩
  clear h hB4 hL
  go_enter Tryz.func20, Tryz.ntmps20
  go_wp2_with fail
  generalize w.heap.size = na at *
  generalize w.alloc (.cells #[.string t.K, .int .i64 t.o, .int .i64 t.t, .int .i64 t.b, .int .i64 t.n, .int .i64 t.r, .int .i64 t.eb, .int .i64 t.ey, .int .i64 t.em] 44) = w4 at *
  refine (bakeTurn_yes F cb C hC few g hg t.r hr A w4 L4 h4).mono ?_
  rintro e w5 ⟨k, rfl, hk, F5, h5, hM5⟩
  go_wp2_with fail
  go_ret
  exact ⟨_, _, F5, g + 2000, rfl, .bake hC hf k, Nat.le_refl _, h5, M4.trans hM5⟩
/-- one act, whatever it is -/
theorem do_of (F : Nat → Prop) (cb : Nat) (C : Ch) (hC : C.Ok) (i : Nat) (hi : i ≤ 400) (hf : C.Fit i) (g : Nat) (hg : g ≤ 850000) (t : CA) (wf : t.Wf) (A : Nat → Addr) (w : World) (hL : ChLaid w A) (h : PCh F w cb C g) :
    Calls Tryz.prog 20 #[.pointer (some ⟨cb, 0, none⟩), .agg #[.string t.K, .int .i64 t.o, .int .i64 t.t, .int .i64 t.b, .int .i64 t.n, .int .i64 t.r, .int .i64 t.eb, .int .i64 t.ey, .int .i64 t.em]] w (DoEnd F cb g C i w) := by
  cases t0 : (t.K.toList == [112, 97, 121]) with
  | true => exact do_pay F cb C hC i hi hf g hg t wf A w hL h t0
  | false =>
    cases t1 : (t.K.toList == [115, 116, 97, 107, 101]) with
    | true => exact do_stake F cb C hC i hi hf g hg t wf A w hL h t0 t1
    | false =>
      cases t2 : (t.K.toList == [117, 110, 115, 116, 97, 107, 101]) with
      | true => exact do_unstake F cb C hC i hi hf g hg t wf A w hL h t0 t1 t2
      | false =>
        cases t3 : (t.K.toList == [102, 114, 101, 101]) with
        | true => exact do_free F cb C hC i hi hf g hg t wf A w hL h t0 t1 t2 t3
        | false =>
          cases t4 : (t.K.toList == [97, 99, 99, 117, 115, 101]) with
          | true => exact do_accuse F cb C hC i hi hf g hg t wf A w hL h t0 t1 t2 t3 t4
          | false =>
            cases t5 : (t.K.toList == [98, 97, 107, 101]) with
            | true =>
              by_cases hr : TurnOk C.cyc C.lev t.r
              · by_cases hk : Turn 3 C.pic C.seed C.cyc C.lev t.r t.b
                · exact do_bake_own F cb C hC i hi hf g hg t wf A w hL h t0 t1 t2 t3 t4 t5 hr (fun k g => g.one hk)
                · exact do_bake_other F cb C hC i hi hf g hg t wf A w hL h t0 t1 t2 t3 t4 t5 hr (fun k g e => hk (e ▸ g))
              · exact do_bake_bad F cb C hC i hi hf g hg t wf A w hL h t0 t1 t2 t3 t4 t5 hr
            | false =>
              by_cases hr : TurnOk C.cyc C.lev t.r
              · exact do_turn_yes F cb C hC i hi hf g hg t wf A w hL h t0 t1 t2 t3 t4 t5 hr
              · exact do_turn_no F cb C hC i hi hf g hg t wf A w hL h t0 t1 t2 t3 t4 t5 hr
end Go.Proofs.YtaihcceobnfmhaaGreatDoor
