/-
  The law PartBends, walked: for every slice of points and every int it returns true.
-/
import Derived.Test.YtlhffdmhbplpjaaDoorBendErr
import Derived.Test.YtlhffdmhbplpjaaDoorFaulted
import Derived.Test.YtlhffdmhbplpjaaDoorBendOf
import Derived.Deep.RegionHeld3
import Derived.OwnWalk
namespace Go.Proofs.YtlhffdmhbplpjaaDoor
open Go.RowKit

theorem bends_many (a : Option Addr) (len cap : Nat) (x : Int) (w : World) (h : 30 < len) (hm : len ≤ 9223372036854775807) :
    Calls Tryd.prog 5 #[.slice a len cap, .int .i64 x] w fun e w' => e = .returned (.bool true) ∧ Below w.heap.size w w' := by
  go_enter Tryd.func5, Tryd.ntmps5
  go_wp2_with (go_at_call 18; refine (parted_yes _).mono ?_; rintro e w' ⟨rfl, n, rfl⟩)
  go_ret
  exact ⟨rfl, below_drewN (Below.refl _ _) _⟩

theorem pts_new {w : World} {len : Nat} {X Y : Nat → Int} {cs : Array Value} (n : Nat) (h : ∀ i, i < len → cs[i * 2]? = some (.int .i64 (X i)) ∧ cs[i * 2 + 1]? = some (.int .i64 (Y i))) (b : Nat) (hb : b = w.heap.size) : Pts ((w.alloc (.cells cs 49)).drewN n) b 0 len X Y := fun i hi => by
  rw [drew_cell, drew_cell, Nat.zero_add]
  exact ⟨cell_new _ _ _ _ _ _ hb (h i hi).1, cell_new _ _ _ _ _ _ hb (h i hi).2⟩

set_option maxRecDepth 100000 in
set_option maxHeartbeats 4000000 in
/-- where an error is told: by Check, by Bend and by the document's answer alike -/
theorem bends_err (b off len cap : Nat) (X Y : Nat → Int) (x c p : Int) (w : World) (hb : b < w.heap.size) (h0 : 0 < len) (h30 : len ≤ 30) (hP : Pts w b off len X Y) (hc : 0 < c)
    (hB : ∀ w' b' off' cap', Below w.heap.size w w' → b' < w'.heap.size → len ≤ cap' → Pts w' b' off' len X Y → Calls Tryd.prog 21 #[.slice (some ⟨b', off', none⟩) len cap', .int .i64 x] w' fun e w'' => ∃ e1, e = .returned (.tuple #[.int .i64 0, e1]) ∧ Told w' c p e1 w'')
    (hF : ∀ w' b' off' cap', Below w.heap.size w w' → b' < w'.heap.size → Pts w' b' off' len X Y → Calls Tryd.prog 22 #[.slice (some ⟨b', off', none⟩) len cap'] w' fun e w'' => e = .returned (.agg #[.int .i64 c, .int .i64 p]) ∧ Below w'.heap.size w' w'')
    (hC : ∀ w' b' off' cap', Below w.heap.size w w' → b' < w'.heap.size → len ≤ cap' → Pts w' b' off' len X Y → Calls Tryd.prog 24 #[.slice (some ⟨b', off', none⟩) len cap'] w' fun e w'' => ∃ e1, e = .returned e1 ∧ Told w' c p e1 w'') :
    Calls Tryd.prog 5 #[.slice (some ⟨b, off, none⟩) len cap, .int .i64 x] w fun e w' => e = .returned (.bool true) ∧ Below w.heap.size w w' := by
  have HB := hide hB
  have HF := hide hF
  have HC := hide hC
  clear hB hF hC
  go_enter Tryd.func5, Tryd.ntmps5
  go_wp2_with fail
  refine (parted_yes _).mono ?_
  rintro e w1 ⟨rfl, n, hw1⟩
  have hB1 : Below w.heap.size w w1 := by rw [hw1]; exact below_drewN (Below.refl _ _) n
  have hP1 := hP.below hB1 hb
  have hb1 : b < w1.heap.size := Nat.lt_of_lt_of_le hb hB1.size
  clear hw1
  have ap1 := append_run_points w1 b off len cap X Y 38 hP1 h0 h30
  have hcap1 := copyCap_ge w1 len
  have hcs1 := copyCells_at w1 len X Y
  generalize copyCap w1 len = cap1 at *
  generalize copyCells w1 len X Y = cs1 at *
  go_wp2_with (at_builtin; refine wpList_append_run _ rfl (.tmp 21) (.tmp 22) 38 rfl (.slice none 0 0) (.slice (some ⟨b, off, none⟩) len cap) (by simp [Act.eval]) (by simp [Act.eval]) _ _ ap1 ?_)
  have hB2 : Below w.heap.size w ((w1.alloc (.cells cs1 49)).drew) := (hB1.alloc hB1.size _).drew
  refine (HB.out _ w1.heap.size 0 cap1 hB2 (by simp) hcap1 (pts_new 1 hcs1 _ rfl)).mono ?_
  clear HB ap1 hcs1 hcap1
  rintro e w3 ⟨e1, rfl, ⟨u, y, rfl⟩, hT3, hB3'⟩
  have hB3 : Below w.heap.size w w3 := hB2.trans (hB3'.mono hB2.size)
  have HT3 := hide hT3
  clear hT3 hB3' hB2 hP1 hb1 hB1
  go_wp2_with fail
  refine (HF.out w3 b off cap hB3 (Nat.lt_of_lt_of_le hb hB3.size) (hP.below hB3 hb)).mono ?_
  rintro e w4 ⟨rfl, hB4'⟩
  have hB4 : Below w.heap.size w w4 := hB3.trans (hB4'.mono hB3.size)
  have HT4 := hide (HT3.out.below hB4')
  clear hB4' HF HT3 hB3
  go_wp2_with fail
  have hB5 : Below w.heap.size w (w4.alloc (.cells #[.int .i64 c, .int .i64 p] 41)) := hB4.alloc hB4.size _
  have HT5 := hide (HT4.out.below ((Below.refl _ _).alloc (Nat.le_refl _) (.cells #[.int .i64 c, .int .i64 p] 41)))
  have s0 : (w4.alloc (.cells #[.int .i64 c, .int .i64 p] 41)).cell? ⟨w4.heap.size, 0, none⟩ = some (.int .i64 c) := by simp
  have s1 : (w4.alloc (.cells #[.int .i64 c, .int .i64 p] 41)).cell? ⟨w4.heap.size, 1, none⟩ = some (.int .i64 p) := by simp
  clear HT4 hB4
  generalize w4.heap.size = g at *
  generalize w4.alloc (.cells #[.int .i64 c, .int .i64 p] 41) = w5 at *
  have hP5 := hP.below hB5 hb
  have hg : g < w5.heap.size := cell_lt s0
  have hP6 : Pts ((w5.alloc (.cells (copyCells w5.drew len X Y) 49)).drewN 2) w5.heap.size 0 len X Y := pts_new 2 (copyCells_at _ len X Y) _ rfl
  have hB6 : Below w.heap.size w ((w5.alloc (.cells (copyCells w5.drew len X Y) 49)).drewN 2) := below_drewN (hB5.alloc hB5.size _) 2
  have s0' : (w5.drew.drew.alloc (.cells (copyCells w5.drew len X Y) 49)).cell? ⟨g, 0, none⟩ = some (.int .i64 c) := by rw [World.cell?_alloc_lt w5.drew.drew _ ⟨g, 0, none⟩ hg]; exact s0
  have s1' : (w5.drew.drew.alloc (.cells (copyCells w5.drew len X Y) 49)).cell? ⟨g, 1, none⟩ = some (.int .i64 p) := by rw [World.cell?_alloc_lt w5.drew.drew _ ⟨g, 1, none⟩ hg]; exact s1
  go_region_held3 (fun w' => w'.cell? ⟨g, 0, none⟩ = some (.int .i64 c) ∧ w'.cell? ⟨g, 1, none⟩ = some (.int .i64 p)) (exact ⟨by assumption, by assumption⟩)
    (first
      | (refine step_append_run rfl (.tmp 30) (.tmp 31) 38 rfl (.slice none 0 0) (.slice (some ⟨b, off, none⟩) len cap) (by simp [Act.eval]) (by simp [Act.eval]) _ _ (append_run_points _ b off len cap X Y _ hP5 h0 h30) ?_)
      | (go_at_call 24; refine (HC.out _ w5.heap.size 0 (copyCap w5.drew len) (by exact hB6) (by simp) (copyCap_ge _ _) (by exact hP6)).mono ?_; rintro e w6 ⟨e6, rfl, ⟨u6, y6, rfl⟩, hT6, hB7⟩; have t0 : w6.cell? ⟨g, 0, none⟩ = some (.int .i64 c) := old_cell hB7 s0'; have t1 : w6.cell? ⟨g, 1, none⟩ = some (.int .i64 p) := old_cell hB7 s1')
      | (go_at_call 23; refine (faulted_of hT6).mono ?_; rintro e w7 ⟨rfl, hB8⟩; have r0 : w7.cell? ⟨g, 0, none⟩ = some (.int .i64 c) := old_cell hB8 t0; have r1 : w7.cell? ⟨g, 1, none⟩ = some (.int .i64 p) := old_cell hB8 t1))
  have hC : Below w5.heap.size w5 w7 := by
    have a : Below w5.heap.size w5 ((w5.alloc (.cells (copyCells w5.drew len X Y) 49)).drewN 2) := below_drewN ((Below.refl _ _).alloc (Nat.le_refl _) _) 2
    have b' : Below w5.heap.size w5 w6 := a.trans (hB7.mono a.size)
    exact b'.trans (hB8.mono b'.size)
  have hD : Below w.heap.size w w7 := hB5.trans (hC.mono hB5.size)
  have FT := hide (faulted_of (HT5.out.below hC))
  have tc : (c == 0) = false := by simp; omega
  clear HC HT5 hB7 hB8 hT6 t0 t1 s0 s1 s0' s1' hP6 hB6 hP5 hC hP
  go_wp2_with fail
  refine FT.out.mono ?_
  rintro e w9 ⟨rfl, hB9⟩
  have hE : Below w.heap.size w w9 := hD.trans (hB9.mono hD.size)
  clear hB9 FT
  go_wp2
  go_ret
  exact ⟨rfl, hE⟩
set_option maxRecDepth 100000 in
set_option maxHeartbeats 4000000 in
/-- a bend, and a place off the scale -/
theorem bends_off (b off len cap : Nat) (X Y : Nat → Int) (x : Int) (w : World) (hb : b < w.heap.size) (h0 : 0 < len) (h30 : len ≤ 30) (hP : Pts w b off len X Y) (hx : x < 0 ∨ 1000000 < x)
    (hB : ∀ w' b' off' cap', Below w.heap.size w w' → b' < w'.heap.size → len ≤ cap' → Pts w' b' off' len X Y → Calls Tryd.prog 21 #[.slice (some ⟨b', off', none⟩) len cap', .int .i64 x] w' fun e w'' => ∃ e1, e = .returned (.tuple #[.int .i64 0, e1]) ∧ Told w' 2 (-1) e1 w'')
    (hF : ∀ w' b' off' cap', Below w.heap.size w w' → b' < w'.heap.size → Pts w' b' off' len X Y → Calls Tryd.prog 22 #[.slice (some ⟨b', off', none⟩) len cap'] w' fun e w'' => e = .returned (.agg #[.int .i64 0, .int .i64 (-1)]) ∧ Below w'.heap.size w' w'')
    (hC : ∀ w' b' off' cap', Below w.heap.size w w' → b' < w'.heap.size → len ≤ cap' → Pts w' b' off' len X Y → Calls Tryd.prog 24 #[.slice (some ⟨b', off', none⟩) len cap'] w' fun e w'' => e = .returned .nilIface ∧ Below w'.heap.size w' w'') :
    Calls Tryd.prog 5 #[.slice (some ⟨b, off, none⟩) len cap, .int .i64 x] w fun e w' => e = .returned (.bool true) ∧ Below w.heap.size w w' := by
  have HB := hide hB
  have HF := hide hF
  have HC := hide hC
  clear hB hF hC
  go_enter Tryd.func5, Tryd.ntmps5
  go_wp2_with fail
  refine (parted_yes _).mono ?_
  rintro e w1 ⟨rfl, n, hw1⟩
  have hB1 : Below w.heap.size w w1 := by rw [hw1]; exact below_drewN (Below.refl _ _) n
  have hP1 := hP.below hB1 hb
  have hb1 : b < w1.heap.size := Nat.lt_of_lt_of_le hb hB1.size
  clear hw1
  have ap1 := append_run_points w1 b off len cap X Y 38 hP1 h0 h30
  have hcap1 := copyCap_ge w1 len
  have hcs1 := copyCells_at w1 len X Y
  generalize copyCap w1 len = cap1 at *
  generalize copyCells w1 len X Y = cs1 at *
  go_wp2_with (at_builtin; refine wpList_append_run _ rfl (.tmp 21) (.tmp 22) 38 rfl (.slice none 0 0) (.slice (some ⟨b, off, none⟩) len cap) (by simp [Act.eval]) (by simp [Act.eval]) _ _ ap1 ?_)
  have hB2 : Below w.heap.size w ((w1.alloc (.cells cs1 49)).drew) := (hB1.alloc hB1.size _).drew
  refine (HB.out _ w1.heap.size 0 cap1 hB2 (by simp) hcap1 (pts_new 1 hcs1 _ rfl)).mono ?_
  clear HB ap1 hcs1 hcap1
  rintro e w3 ⟨e1, rfl, ⟨u, y, rfl⟩, hT3, hB3'⟩
  have hB3 : Below w.heap.size w w3 := hB2.trans (hB3'.mono hB2.size)
  have HT3 := hide hT3
  clear hT3 hB3' hB2 hP1 hb1 hB1
  go_wp2_with fail
  refine (HF.out w3 b off cap hB3 (Nat.lt_of_lt_of_le hb hB3.size) (hP.below hB3 hb)).mono ?_
  rintro e w4 ⟨rfl, hB4'⟩
  have hB4 : Below w.heap.size w w4 := hB3.trans (hB4'.mono hB3.size)
  have h35 : ∀ o, Below w3.heap.size w3 (w4.alloc o) := fun o => hB4'.alloc hB4'.size o
  have h3g : w3.heap.size ≤ w4.heap.size := hB4'.size
  clear hB4' HF hB3
  go_wp2_with fail
  have hB5 : Below w.heap.size w (w4.alloc (.cells #[.int .i64 0, .int .i64 (-1)] 41)) := hB4.alloc hB4.size _
  have h35 := h35 (.cells #[.int .i64 0, .int .i64 (-1)] 41)
  have s0 : (w4.alloc (.cells #[.int .i64 0, .int .i64 (-1)] 41)).cell? ⟨w4.heap.size, 0, none⟩ = some (.int .i64 0) := by simp
  have s1 : (w4.alloc (.cells #[.int .i64 0, .int .i64 (-1)] 41)).cell? ⟨w4.heap.size, 1, none⟩ = some (.int .i64 (-1)) := by simp
  have z0 : (w4.alloc (.cells #[.int .i64 0, .int .i64 (-1)] 41)).frozen? ⟨w4.heap.size, 0, none⟩ = false := by simp
  have z1 : (w4.alloc (.cells #[.int .i64 0, .int .i64 (-1)] 41)).frozen? ⟨w4.heap.size, 1, none⟩ = false := by simp
  have hgw : w.heap.size ≤ w4.heap.size := hB4.size
  clear hB4
  generalize w4.heap.size = g at *
  generalize w4.alloc (.cells #[.int .i64 0, .int .i64 (-1)] 41) = w5 at *
  have hP5 := hP.below hB5 hb
  have hg : g < w5.heap.size := cell_lt s0
  have hP6 : Pts ((w5.alloc (.cells (copyCells w5.drew len X Y) 49)).drewN 2) w5.heap.size 0 len X Y := pts_new 2 (copyCells_at _ len X Y) _ rfl
  have hB6 : Below w.heap.size w ((w5.alloc (.cells (copyCells w5.drew len X Y) 49)).drewN 2) := below_drewN (hB5.alloc hB5.size _) 2
  have s0' : (w5.drew.drew.alloc (.cells (copyCells w5.drew len X Y) 49)).cell? ⟨g, 0, none⟩ = some (.int .i64 0) := by rw [World.cell?_alloc_lt w5.drew.drew _ ⟨g, 0, none⟩ hg]; exact s0
  have s1' : (w5.drew.drew.alloc (.cells (copyCells w5.drew len X Y) 49)).cell? ⟨g, 1, none⟩ = some (.int .i64 (-1)) := by rw [World.cell?_alloc_lt w5.drew.drew _ ⟨g, 1, none⟩ hg]; exact s1
  go_region_held3 (fun w' => w'.cell? ⟨g, 0, none⟩ = some (.int .i64 0) ∧ w'.cell? ⟨g, 1, none⟩ = some (.int .i64 (-1))) (exact ⟨by assumption, by assumption⟩)
    (first
      | (refine step_append_run rfl (.tmp 30) (.tmp 31) 38 rfl (.slice none 0 0) (.slice (some ⟨b, off, none⟩) len cap) (by simp [Act.eval]) (by simp [Act.eval]) _ _ (append_run_points _ b off len cap X Y _ hP5 h0 h30) ?_)
      | (go_at_call 24; refine (HC.out _ w5.heap.size 0 (copyCap w5.drew len) (by exact hB6) (by simp) (copyCap_ge _ _) (by exact hP6)).mono ?_; rintro e w6 ⟨rfl, hB7⟩; have t0 : w6.cell? ⟨g, 0, none⟩ = some (.int .i64 0) := old_cell hB7 s0'; have t1 : w6.cell? ⟨g, 1, none⟩ = some (.int .i64 (-1)) := old_cell hB7 s1')
      | (go_at_call 23; refine (faulted_nil _ (-1)).mono ?_; rintro e w7 ⟨rfl, hB8⟩; have r0 : w7.cell? ⟨g, 0, none⟩ = some (.int .i64 0) := old_cell hB8 t0; have r1 : w7.cell? ⟨g, 1, none⟩ = some (.int .i64 (-1)) := old_cell hB8 t1))
  have hC : Below w5.heap.size w5 w7 := by
    have a : Below w5.heap.size w5 ((w5.alloc (.cells (copyCells w5.drew len X Y) 49)).drewN 2) := below_drewN ((Below.refl _ _).alloc (Nat.le_refl _) _) 2
    have b' : Below w5.heap.size w5 w6 := a.trans (hB7.mono a.size)
    exact b'.trans (hB8.mono b'.size)
  have hD : Below w.heap.size w w7 := hB5.trans (hC.mono hB5.size)
  have q0 : w7.frozen? ⟨g, 0, none⟩ = false := by rw [hC.frozen (p := ⟨g, 0, none⟩) hg]; exact z0
  have q1 : w7.frozen? ⟨g, 1, none⟩ = false := by rw [hC.frozen (p := ⟨g, 1, none⟩) hg]; exact z1
  have hg7 : g < w7.heap.size := Nat.lt_of_lt_of_le hg hC.size
  have h37 : Below w3.heap.size w3 w7 := h35.trans (hC.mono h35.size)
  clear HC h35 hB7 hB8 t0 t1 s0 s1 s0' s1' hP6 hB6 hP5 hC hP z0 z1
  rcases hx with hx | hx
  · go_wp2_with (go_at_call 25; refine (bare_calls 2 _).mono ?_; rintro e w8 ⟨rfl, rfl⟩)
    have h38 : Below w3.heap.size w3 ((((w7.setCell ⟨g, 0, none⟩ (.int .i64 2)).setCell ⟨g, 1, none⟩ (.int .i64 (-1))).alloc (.cells #[.int .i64 2, .int .i64 (-1)] 41))) := ((h37.setCell (p := ⟨g, 0, none⟩) h3g _).setCell (p := ⟨g, 1, none⟩) h3g _).alloc (by have := h37.size; simp; omega) _
    have hE8 : Below w.heap.size w ((((w7.setCell ⟨g, 0, none⟩ (.int .i64 2)).setCell ⟨g, 1, none⟩ (.int .i64 (-1))).alloc (.cells #[.int .i64 2, .int .i64 (-1)] 41))) := ((hD.setCell (p := ⟨g, 0, none⟩) hgw _).setCell (p := ⟨g, 1, none⟩) hgw _).alloc (by have := hD.size; simp; omega) _
    refine (faulted_of (HT3.out.below h38)).mono ?_
    rintro e w9 ⟨rfl, hB9⟩
    have hE : Below w.heap.size w w9 := hE8.trans (hB9.mono hE8.size)
    clear hB9 h38 hE8
    go_wp2
    go_ret
    exact ⟨rfl, hE⟩
  · have hx' : ¬ x < 0 := by omega
    go_wp2_with (go_at_call 25; refine (bare_calls 2 _).mono ?_; rintro e w8 ⟨rfl, rfl⟩)
    have h38 : Below w3.heap.size w3 ((((w7.setCell ⟨g, 0, none⟩ (.int .i64 2)).setCell ⟨g, 1, none⟩ (.int .i64 (-1))).alloc (.cells #[.int .i64 2, .int .i64 (-1)] 41))) := ((h37.setCell (p := ⟨g, 0, none⟩) h3g _).setCell (p := ⟨g, 1, none⟩) h3g _).alloc (by have := h37.size; simp; omega) _
    have hE8 : Below w.heap.size w ((((w7.setCell ⟨g, 0, none⟩ (.int .i64 2)).setCell ⟨g, 1, none⟩ (.int .i64 (-1))).alloc (.cells #[.int .i64 2, .int .i64 (-1)] 41))) := ((hD.setCell (p := ⟨g, 0, none⟩) hgw _).setCell (p := ⟨g, 1, none⟩) hgw _).alloc (by have := hD.size; simp; omega) _
    refine (faulted_of (HT3.out.below h38)).mono ?_
    rintro e w9 ⟨rfl, hB9⟩
    have hE : Below w.heap.size w w9 := hE8.trans (hB9.mono hE8.size)
    clear hB9 h38 hE8
    go_wp2
    go_ret
    exact ⟨rfl, hE⟩
set_option maxRecDepth 100000 in
set_option maxHeartbeats 4000000 in
/-- a bend, and a place on the scale -/
theorem bends_on (b off len cap : Nat) (X Y : Nat → Int) (x v : Int) (w : World) (hb : b < w.heap.size) (h0 : 0 < len) (h30 : len ≤ 30) (hP : Pts w b off len X Y) (x0 : 0 ≤ x) (x1 : x ≤ 1000000)
    (hB : ∀ w' b' off' cap', Below w.heap.size w w' → b' < w'.heap.size → len ≤ cap' → Pts w' b' off' len X Y → Calls Tryd.prog 21 #[.slice (some ⟨b', off', none⟩) len cap', .int .i64 x] w' fun e w'' => e = .returned (.tuple #[.int .i64 v, .nilIface]) ∧ Below w'.heap.size w' w'')
    (hO : ∀ w' b' off' cap', Below w.heap.size w w' → b' < w'.heap.size → Pts w' b' off' len X Y → Calls Tryd.prog 26 #[.slice (some ⟨b', off', none⟩) len cap', .int .i64 x] w' fun e w'' => e = .returned (.int .i64 v) ∧ Below w'.heap.size w' w'')
    (hF : ∀ w' b' off' cap', Below w.heap.size w w' → b' < w'.heap.size → Pts w' b' off' len X Y → Calls Tryd.prog 22 #[.slice (some ⟨b', off', none⟩) len cap'] w' fun e w'' => e = .returned (.agg #[.int .i64 0, .int .i64 (-1)]) ∧ Below w'.heap.size w' w'')
    (hC : ∀ w' b' off' cap', Below w.heap.size w w' → b' < w'.heap.size → len ≤ cap' → Pts w' b' off' len X Y → Calls Tryd.prog 24 #[.slice (some ⟨b', off', none⟩) len cap'] w' fun e w'' => e = .returned .nilIface ∧ Below w'.heap.size w' w'') :
    Calls Tryd.prog 5 #[.slice (some ⟨b, off, none⟩) len cap, .int .i64 x] w fun e w' => e = .returned (.bool true) ∧ Below w.heap.size w w' := by
  have HB := hide hB
  have HF := hide hF
  have HC := hide hC
  have HO := hide hO
  clear hB hF hC hO
  go_enter Tryd.func5, Tryd.ntmps5
  go_wp2_with fail
  refine (parted_yes _).mono ?_
  rintro e w1 ⟨rfl, n, hw1⟩
  have hB1 : Below w.heap.size w w1 := by rw [hw1]; exact below_drewN (Below.refl _ _) n
  have hP1 := hP.below hB1 hb
  have hb1 : b < w1.heap.size := Nat.lt_of_lt_of_le hb hB1.size
  clear hw1
  have ap1 := append_run_points w1 b off len cap X Y 38 hP1 h0 h30
  have hcap1 := copyCap_ge w1 len
  have hcs1 := copyCells_at w1 len X Y
  generalize copyCap w1 len = cap1 at *
  generalize copyCells w1 len X Y = cs1 at *
  go_wp2_with (at_builtin; refine wpList_append_run _ rfl (.tmp 21) (.tmp 22) 38 rfl (.slice none 0 0) (.slice (some ⟨b, off, none⟩) len cap) (by simp [Act.eval]) (by simp [Act.eval]) _ _ ap1 ?_)
  have hB2 : Below w.heap.size w ((w1.alloc (.cells cs1 49)).drew) := (hB1.alloc hB1.size _).drew
  refine (HB.out _ w1.heap.size 0 cap1 hB2 (by simp) hcap1 (pts_new 1 hcs1 _ rfl)).mono ?_
  clear HB ap1 hcs1 hcap1
  rintro e w3 ⟨rfl, hB3'⟩
  have hB3 : Below w.heap.size w w3 := hB2.trans (hB3'.mono hB2.size)
  clear hB3' hB2 hP1 hb1 hB1
  go_wp2_with fail
  refine (HF.out w3 b off cap hB3 (Nat.lt_of_lt_of_le hb hB3.size) (hP.below hB3 hb)).mono ?_
  rintro e w4 ⟨rfl, hB4'⟩
  have hB4 : Below w.heap.size w w4 := hB3.trans (hB4'.mono hB3.size)
  clear hB4' HF hB3
  go_wp2_with fail
  have hB5 : Below w.heap.size w (w4.alloc (.cells #[.int .i64 0, .int .i64 (-1)] 41)) := hB4.alloc hB4.size _
  have s0 : (w4.alloc (.cells #[.int .i64 0, .int .i64 (-1)] 41)).cell? ⟨w4.heap.size, 0, none⟩ = some (.int .i64 0) := by simp
  have s1 : (w4.alloc (.cells #[.int .i64 0, .int .i64 (-1)] 41)).cell? ⟨w4.heap.size, 1, none⟩ = some (.int .i64 (-1)) := by simp
  clear hB4
  generalize w4.heap.size = g at *
  generalize w4.alloc (.cells #[.int .i64 0, .int .i64 (-1)] 41) = w5 at *
  have hP5 := hP.below hB5 hb
  have hg : g < w5.heap.size := cell_lt s0
  have hP6 : Pts ((w5.alloc (.cells (copyCells w5.drew len X Y) 49)).drewN 2) w5.heap.size 0 len X Y := pts_new 2 (copyCells_at _ len X Y) _ rfl
  have hB6 : Below w.heap.size w ((w5.alloc (.cells (copyCells w5.drew len X Y) 49)).drewN 2) := below_drewN (hB5.alloc hB5.size _) 2
  have s0' : (w5.drew.drew.alloc (.cells (copyCells w5.drew len X Y) 49)).cell? ⟨g, 0, none⟩ = some (.int .i64 0) := by rw [World.cell?_alloc_lt w5.drew.drew _ ⟨g, 0, none⟩ hg]; exact s0
  have s1' : (w5.drew.drew.alloc (.cells (copyCells w5.drew len X Y) 49)).cell? ⟨g, 1, none⟩ = some (.int .i64 (-1)) := by rw [World.cell?_alloc_lt w5.drew.drew _ ⟨g, 1, none⟩ hg]; exact s1
  go_region_held3 (fun w' => w'.cell? ⟨g, 0, none⟩ = some (.int .i64 0) ∧ w'.cell? ⟨g, 1, none⟩ = some (.int .i64 (-1))) (exact ⟨by assumption, by assumption⟩)
    (first
      | (refine step_append_run rfl (.tmp 30) (.tmp 31) 38 rfl (.slice none 0 0) (.slice (some ⟨b, off, none⟩) len cap) (by simp [Act.eval]) (by simp [Act.eval]) _ _ (append_run_points _ b off len cap X Y _ hP5 h0 h30) ?_)
      | (go_at_call 24; refine (HC.out _ w5.heap.size 0 (copyCap w5.drew len) (by exact hB6) (by simp) (copyCap_ge _ _) (by exact hP6)).mono ?_; rintro e w6 ⟨rfl, hB7⟩; have t0 : w6.cell? ⟨g, 0, none⟩ = some (.int .i64 0) := old_cell hB7 s0'; have t1 : w6.cell? ⟨g, 1, none⟩ = some (.int .i64 (-1)) := old_cell hB7 s1')
      | (go_at_call 23; refine (faulted_nil _ (-1)).mono ?_; rintro e w7 ⟨rfl, hB8⟩; have r0 : w7.cell? ⟨g, 0, none⟩ = some (.int .i64 0) := old_cell hB8 t0; have r1 : w7.cell? ⟨g, 1, none⟩ = some (.int .i64 (-1)) := old_cell hB8 t1))
  have hC : Below w5.heap.size w5 w7 := by
    have a : Below w5.heap.size w5 ((w5.alloc (.cells (copyCells w5.drew len X Y) 49)).drewN 2) := below_drewN ((Below.refl _ _).alloc (Nat.le_refl _) _) 2
    have b' : Below w5.heap.size w5 w6 := a.trans (hB7.mono a.size)
    exact b'.trans (hB8.mono b'.size)
  have hD : Below w.heap.size w w7 := hB5.trans (hC.mono hB5.size)
  have OF := hide (HO.out w7 b off cap hD (Nat.lt_of_lt_of_le hb hD.size) (hP.below hD hb))
  have tv : (v == v) = true := by simp
  clear HC hB7 hB8 t0 t1 s0 s1 s0' s1' hP6 hB6 hP5 hC hP HO
  go_wp2_with fail
  refine OF.out.mono ?_
  rintro e w9 ⟨rfl, hB9⟩
  have hE : Below w.heap.size w w9 := hD.trans (hB9.mono hD.size)
  clear hB9 OF
  go_wp2
  go_ret
  exact ⟨rfl, hE⟩

set_option maxRecDepth 100000 in
set_option maxHeartbeats 4000000 in
/-- no points at all -/
theorem bends_none (a : Option Addr) (cap : Nat) (x : Int) (A : Nat → Addr) (w : World) (hL : Laid w A) :
    Calls Tryd.prog 5 #[.slice a 0 cap, .int .i64 x] w fun e w' => e = .returned (.bool true) ∧ Below w.heap.size w w' := by
  have HA : ∀ (ty : TypeId) (w' : World), (Builtin.append_ #[38, 38] ty #[.slice none 0 0, .slice a 0 cap]).run Tryd.prog w' = .ok (.slice none 0 0) w' := fun ty w' => by cases a <;> kernel_rfl
  have cf := fun (w' : World) (hB : Below w.heap.size w w') => check_few none 0 0 w' (A 2) (hL.below hB).v2 (Or.inl (by omega)) (by omega)
  have ck : ∀ w', Below w.heap.size w w' → Calls Tryd.prog 24 #[.slice none 0 0] w' fun e w'' => ∃ e1, e = .returned e1 ∧ Told w' 3 (-1) e1 w'' := fun w' hB => (cf w' hB).mono fun e w'' ⟨he, hw⟩ => ⟨_, he, by rw [hw]; exact told_sent (hL.below hB) 2 (by omega) (Below.refl _ _)⟩
  have HC := hide ck
  have HAp := hide HA
  clear cf ck HA
  go_enter Tryd.func5, Tryd.ntmps5
  go_wp2_with fail
  refine (parted_yes _).mono ?_
  rintro e w1 ⟨rfl, n, hw1⟩
  have hB1 : Below w.heap.size w w1 := by rw [hw1]; exact below_drewN (Below.refl _ _) n
  clear hw1
  go_wp2_with (at_builtin; refine wpList_append_run _ rfl (.tmp 21) (.tmp 22) 38 rfl (.slice none 0 0) (.slice a 0 cap) (by simp [Act.eval]) (by simp [Act.eval]) _ _ (HAp.out _ _) ?_)
  refine (bend_hands none 0 0 x 3 (-1) w1 (HC.out w1 hB1)).mono ?_
  rintro e w3 ⟨e1, rfl, ⟨u, y, rfl⟩, hT3, hB3'⟩
  have hB3 : Below w.heap.size w w3 := hB1.trans (hB3'.mono hB1.size)
  have HT3 := hide hT3
  clear hT3 hB3' hB1
  go_wp2_with fail
  refine (bendFault_few a 0 cap w3 (Or.inl (by omega)) (by omega)).mono ?_
  rintro e w4 ⟨rfl, hB4'⟩
  have hB4 : Below w.heap.size w w4 := hB3.trans (hB4'.mono hB3.size)
  have HT4 := hide (HT3.out.below hB4')
  clear hB4' HT3 hB3
  go_wp2_with fail
  have hB5 : Below w.heap.size w (w4.alloc (.cells #[.int .i64 3, .int .i64 (-1)] 41)) := hB4.alloc hB4.size _
  have HT5 := hide (HT4.out.below ((Below.refl _ _).alloc (Nat.le_refl _) (.cells #[.int .i64 3, .int .i64 (-1)] 41)))
  have s0 : (w4.alloc (.cells #[.int .i64 3, .int .i64 (-1)] 41)).cell? ⟨w4.heap.size, 0, none⟩ = some (.int .i64 3) := by simp
  have s1 : (w4.alloc (.cells #[.int .i64 3, .int .i64 (-1)] 41)).cell? ⟨w4.heap.size, 1, none⟩ = some (.int .i64 (-1)) := by simp
  clear HT4 hB4
  generalize w4.heap.size = g at *
  generalize w4.alloc (.cells #[.int .i64 3, .int .i64 (-1)] 41) = w5 at *
  have hg : g < w5.heap.size := cell_lt s0
  go_region_held3 (fun w' => w'.cell? ⟨g, 0, none⟩ = some (.int .i64 3) ∧ w'.cell? ⟨g, 1, none⟩ = some (.int .i64 (-1))) (first | exact ⟨by assumption, by assumption⟩ | exact ⟨s0, s1⟩)
    (first
      | (refine step_append_run rfl (.tmp 30) (.tmp 31) 38 rfl (.slice none 0 0) (.slice a 0 cap) (by simp [Act.eval]) (by simp [Act.eval]) _ _ (HAp.out _ _) ?_)
      | (go_at_call 24; refine (HC.out _ (by exact hB5.drew)).mono ?_; rintro e w6 ⟨e6, rfl, ⟨u6, y6, rfl⟩, hT6, hB7⟩; have t0 : w6.cell? ⟨g, 0, none⟩ = some (.int .i64 3) := old_cell hB7 s0; have t1 : w6.cell? ⟨g, 1, none⟩ = some (.int .i64 (-1)) := old_cell hB7 s1)
      | (go_at_call 23; refine (faulted_of hT6).mono ?_; rintro e w7 ⟨rfl, hB8⟩; have r0 : w7.cell? ⟨g, 0, none⟩ = some (.int .i64 3) := old_cell hB8 t0; have r1 : w7.cell? ⟨g, 1, none⟩ = some (.int .i64 (-1)) := old_cell hB8 t1))
  have hC : Below w5.heap.size w5 w7 := by
    have b' : Below w5.heap.size w5 w6 := ⟨hB7.os, hB7.tape, hB7.output, hB7.size, hB7.block⟩
    exact b'.trans (hB8.mono b'.size)
  have hD : Below w.heap.size w w7 := hB5.trans (hC.mono hB5.size)
  have FT := hide (faulted_of (HT5.out.below hC))
  clear HC HT5 hB7 hB8 hT6 t0 t1 s0 s1 hC HAp
  go_wp2_with fail
  refine FT.out.mono ?_
  rintro e w9 ⟨rfl, hB9⟩
  have hE : Below w.heap.size w w9 := hD.trans (hB9.mono hD.size)
  clear hB9 FT
  go_wp2
  go_ret
  exact ⟨rfl, hE⟩

theorem place_of (X : Nat → Int) (x : Int) (h0 : X 0 ≤ x) : ∀ m : Nat, (∃ i, i < m ∧ (∀ j, j ≤ i → X j ≤ x) ∧ x < X (i + 1)) ∨ (∀ j, j ≤ m → X j ≤ x)
  | 0 => Or.inr fun j hj => by
    have e : j = 0 := by omega
    rw [e]; exact h0
  | m + 1 => by
    rcases place_of X x h0 m with ⟨i, hi, h1, h2⟩ | h
    · exact Or.inl ⟨i, by omega, h1, h2⟩
    · rcases Int.lt_or_le x (X (m + 1)) with hx | hx
      · exact Or.inl ⟨m, by omega, h, hx⟩
      · refine Or.inr fun j hj => ?_
        rcases Nat.lt_or_ge j (m + 1) with hl | hl
        · exact h j (by omega)
        · have e : j = m + 1 := by omega
          rw [e]; exact hx

/-- The law, for every slice of points and every int. -/
theorem bends_walk (b off len cap : Nat) (X Y : Nat → Int) (x : Int) (A : Nat → Addr) (w : World) (hL : Laid w A) (hb : b < w.heap.size) (h0 : 0 < len) (hcap : len ≤ cap) (hm : cap ≤ 9223372036854775807) (hP : Pts w b off len X Y) :
    Calls Tryd.prog 5 #[.slice (some ⟨b, off, none⟩) len cap, .int .i64 x] w fun e w' => e = .returned (.bool true) ∧ Below w.heap.size w w' := by
  rcases Nat.lt_or_ge 30 len with h30 | h30
  · exact bends_many _ len cap x w h30 (by omega)
  have few : (len < 2 ∨ 8 < len) → Calls Tryd.prog 5 #[.slice (some ⟨b, off, none⟩) len cap, .int .i64 x] w fun e w' => e = .returned (.bool true) ∧ Below w.heap.size w w' := fun hf => by
    have ck : ∀ w' b' off' cap', Below w.heap.size w w' → b' < w'.heap.size → len ≤ cap' → Pts w' b' off' len X Y → Calls Tryd.prog 24 #[.slice (some ⟨b', off', none⟩) len cap'] w' fun e w'' => ∃ e1, e = .returned e1 ∧ Told w' 3 (-1) e1 w'' :=
      fun w' b' off' cap' hB _ _ _ => (check_few (some ⟨b', off', none⟩) len cap' w' (A 2) (hL.below hB).v2 hf (by omega)).mono fun e w'' ⟨he, hw⟩ => ⟨_, he, by rw [hw]; exact told_sent (hL.below hB) 2 (by omega) (Below.refl _ _)⟩
    exact bends_err b off len cap X Y x 3 (-1) w hb h0 h30 hP (by omega) (fun w' b' off' cap' hB h1 h2 h3 => bend_hands _ len cap' x 3 (-1) w' (ck w' b' off' cap' hB h1 h2 h3)) (fun w' b' off' cap' _ _ _ => bendFault_few _ len cap' w' hf (by omega)) ck
  rcases Nat.lt_or_ge len 2 with h2 | h2
  · exact few (Or.inl h2)
  rcases Nat.lt_or_ge 8 len with h8 | h8
  · exact few (Or.inr h8)
  rcases first_bad X Y len with hG | ⟨k0, hk0, hG, hbad | ⟨ho, hp, hle⟩⟩
  · have ck : ∀ w' b' off' cap', Below w.heap.size w w' → b' < w'.heap.size → len ≤ cap' → Pts w' b' off' len X Y → Calls Tryd.prog 24 #[.slice (some ⟨b', off', none⟩) len cap'] w' fun e w'' => e = .returned .nilIface ∧ Below w'.heap.size w' w'' :=
      fun w' b' off' cap' _ h1 _ h3 => check_fine b' off' len cap' X Y w' h1 h2 h8 h3 hG
    have bf : ∀ w' b' off' cap', Below w.heap.size w w' → b' < w'.heap.size → Pts w' b' off' len X Y → Calls Tryd.prog 22 #[.slice (some ⟨b', off', none⟩) len cap'] w' fun e w'' => e = .returned (.agg #[.int .i64 0, .int .i64 (-1)]) ∧ Below w'.heap.size w' w'' :=
      fun w' b' off' cap' _ h1 h3 => bendFault_fine b' off' len cap' X Y w' h1 h2 h8 h3 hG
    by_cases hx : x < 0 ∨ 1000000 < x
    · exact bends_off b off len cap X Y x w hb h0 h30 hP hx (fun w' b' off' cap' hB h1 _ h3 => bend_off b' off' len cap' X Y x A w' (hL.below hB) h1 h2 h8 h3 hG hx) bf ck
    · rcases Int.lt_or_le x (X 0) with hx0 | hx0
      · exact bends_on b off len cap X Y x (Y 0) w hb h0 h30 hP (by omega) (by omega) (fun w' b' off' cap' _ h1 _ h3 => bend_first b' off' len cap' X Y x w' h1 h2 h8 h3 hG (by omega) (by omega) hx0) (fun w' b' off' cap' _ _ h3 => bendOf_first b' off' len cap' X Y x w' h2 h8 h3 hx0) bf ck
      · rcases place_of X x hx0 (len - 1) with ⟨i, hi, h1, hx1⟩ | hall
        · exact bends_on b off len cap X Y x _ w hb h0 h30 hP (by omega) (by omega) (fun w' b' off' cap' _ q1 q2 q3 => bend_mid b' off' len cap' i X Y x w' q1 h2 h8 q2 q3 hG (by omega) (by omega) (by omega) h1 hx1) (fun w' b' off' cap' _ q1 q3 => bendOf_mid b' off' len cap' i X Y x w' q1 h8 q3 hG (by omega) h1 hx1) bf ck
        · exact bends_on b off len cap X Y x _ w hb h0 h30 hP (by omega) (by omega) (fun w' b' off' cap' _ q1 q2 q3 => bend_last b' off' len cap' X Y x w' q1 h2 h8 q2 q3 hG (by omega) (by omega) (fun j hj => hall j (by omega))) (fun w' b' off' cap' _ _ q3 => bendOf_last b' off' len cap' X Y x w' h2 h8 q3 (fun j hj => hall j (by omega))) bf ck
  · have ck : ∀ w' b' off' cap', Below w.heap.size w w' → b' < w'.heap.size → len ≤ cap' → Pts w' b' off' len X Y → Calls Tryd.prog 24 #[.slice (some ⟨b', off', none⟩) len cap'] w' fun e w'' => ∃ e1, e = .returned e1 ∧ Told w' 2 k0 e1 w'' :=
      fun w' b' off' cap' hB q1 _ q3 => (check_bound b' off' len cap' k0 X Y w' (A 1) (hL.below hB).v1 (cell_lt (hL.below hB).v1) q1 h2 h8 q3 hG hk0 hbad).mono fun e w'' ⟨n, he, _, c0, c1, hw⟩ => ⟨_, he, told_flt (hL.below hB) n 1 k0 (by omega) c0 c1 hw⟩
    exact bends_err b off len cap X Y x 2 k0 w hb h0 h30 hP (by omega) (fun w' b' off' cap' hB q1 q2 q3 => bend_hands _ len cap' x 2 k0 w' (ck w' b' off' cap' hB q1 q2 q3)) (fun w' b' off' cap' _ q1 q3 => bendFault_bound b' off' len cap' k0 X Y w' q1 h2 h8 q3 hG hk0 hbad) ck
  · have ck : ∀ w' b' off' cap', Below w.heap.size w w' → b' < w'.heap.size → len ≤ cap' → Pts w' b' off' len X Y → Calls Tryd.prog 24 #[.slice (some ⟨b', off', none⟩) len cap'] w' fun e w'' => ∃ e1, e = .returned e1 ∧ Told w' 3 k0 e1 w'' :=
      fun w' b' off' cap' hB q1 _ q3 => (check_shape b' off' len cap' k0 X Y w' (A 2) (hL.below hB).v2 (cell_lt (hL.below hB).v2) q1 h2 h8 q3 hG hk0 ho hp hle).mono fun e w'' ⟨n, he, _, c0, c1, hw⟩ => ⟨_, he, told_flt (hL.below hB) n 2 k0 (by omega) c0 c1 hw⟩
    exact bends_err b off len cap X Y x 3 k0 w hb h0 h30 hP (by omega) (fun w' b' off' cap' hB q1 q2 q3 => bend_hands _ len cap' x 3 k0 w' (ck w' b' off' cap' hB q1 q2 q3)) (fun w' b' off' cap' _ q1 q3 => bendFault_shape b' off' len cap' k0 X Y w' q1 h2 h8 q3 hG hk0 ho hp hle) ck
end Go.Proofs.YtlhffdmhbplpjaaDoor
