/-
  Who bakes, by the document (bakehouseref2.BakerOf), by its contracts.
-/
import Derived.Test.YtlhffdmhbplpjabDoorRightMath
import Derived.Test.YtlhffdmhbplpjabDoorRefNewDraw
import Derived.Test.YtlhffdmhbplpjabDoorLotsRef
import Derived.Deep.RegionWith
namespace Go.Proofs.YtlhffdmhbplpjabDoor
open Go.RowKit Go.Deep

set_option maxRecDepth 100000 in
set_option maxHeartbeats 1000000 in
theorem ref_baker_bad (a : Option Addr) (n cap seed : Nat) (c l r : Int) (h : ¬ TurnOk c l r) (w : World) :
    Calls Tryd.prog 48 #[.slice a n cap, .int .u64 seed, .int .i64 c, .int .i64 l, .int .i64 r] w fun e w' => e = .returned (.tuple #[.int .i64 0, .agg #[.int .i64 2, .int .i64 (-1)]]) ∧ Below w.heap.size w w' := by
  by_cases c0 : 0 ≤ c
  · by_cases c1 : c ≤ 1048576
    · by_cases l0 : 0 ≤ l
      · by_cases l1 : l ≤ 4194304
        · by_cases r0 : 0 ≤ r
          · have r1 : ¬ r < 8 := fun g => h ⟨⟨c0, c1⟩, ⟨l0, l1⟩, r0, g⟩
            clear h
            go_enter Tryd.func48, Tryd.ntmps48
            go_wp2_with (go_at_call 97; refine (bareD 2 _).mono ?_; rintro e w1 ⟨rfl, rfl⟩)
            exact bodyPost_ret (v := .tuple #[.int .i64 0, .agg #[.int .i64 2, .int .i64 (-1)]]) (by simp [results, Tryd.results48, go_sem]) rfl ⟨rfl, below_two⟩
          · clear h
            go_enter Tryd.func48, Tryd.ntmps48
            go_wp2_with (go_at_call 97; refine (bareD 2 _).mono ?_; rintro e w1 ⟨rfl, rfl⟩)
            exact bodyPost_ret (v := .tuple #[.int .i64 0, .agg #[.int .i64 2, .int .i64 (-1)]]) (by simp [results, Tryd.results48, go_sem]) rfl ⟨rfl, below_two⟩
        · clear h
          go_enter Tryd.func48, Tryd.ntmps48
          go_wp2_with (go_at_call 97; refine (bareD 2 _).mono ?_; rintro e w1 ⟨rfl, rfl⟩)
          exact bodyPost_ret (v := .tuple #[.int .i64 0, .agg #[.int .i64 2, .int .i64 (-1)]]) (by simp [results, Tryd.results48, go_sem]) rfl ⟨rfl, below_two⟩
      · clear h
        go_enter Tryd.func48, Tryd.ntmps48
        go_wp2_with (go_at_call 97; refine (bareD 2 _).mono ?_; rintro e w1 ⟨rfl, rfl⟩)
        exact bodyPost_ret (v := .tuple #[.int .i64 0, .agg #[.int .i64 2, .int .i64 (-1)]]) (by simp [results, Tryd.results48, go_sem]) rfl ⟨rfl, below_two⟩
    · clear h
      go_enter Tryd.func48, Tryd.ntmps48
      go_wp2_with (go_at_call 97; refine (bareD 2 _).mono ?_; rintro e w1 ⟨rfl, rfl⟩)
      exact bodyPost_ret (v := .tuple #[.int .i64 0, .agg #[.int .i64 2, .int .i64 (-1)]]) (by simp [results, Tryd.results48, go_sem]) rfl ⟨rfl, below_two⟩
  · clear h
    go_enter Tryd.func48, Tryd.ntmps48
    go_wp2_with (go_at_call 97; refine (bareD 2 _).mono ?_; rintro e w1 ⟨rfl, rfl⟩)
    exact bodyPost_ret (v := .tuple #[.int .i64 0, .agg #[.int .i64 2, .int .i64 (-1)]]) (by simp [results, Tryd.results48, go_sem]) rfl ⟨rfl, below_two⟩

set_option maxRecDepth 100000 in
set_option maxHeartbeats 1000000 in
theorem ref_baker_fault (v : Value) (seed : Nat) (c l r z p : Int) (h : TurnOk c l r) (hz : 0 < z) (w : World)
    (WF : ∀ w1, Below w.heap.size w w1 → Calls Tryd.prog 98 #[v] w1 fun e w2 => e = .returned (.agg #[.int .i64 z, .int .i64 p]) ∧ Below w1.heap.size w1 w2) :
    Calls Tryd.prog 48 #[v, .int .u64 seed, .int .i64 c, .int .i64 l, .int .i64 r] w fun e w' => e = .returned (.tuple #[.int .i64 0, .agg #[.int .i64 z, .int .i64 p]]) ∧ Below w.heap.size w w' := by
  obtain ⟨⟨c0, c1⟩, ⟨l0, l1⟩, r0, r1⟩ := h
  have B1 : Below w.heap.size w (w.alloc (.cells #[.int .i64 0, .int .i64 0] 60)) := below_one
  have W1 := hide (WF _ B1)
  have s0 : (w.alloc (.cells #[.int .i64 0, .int .i64 0] 60)).cell? ⟨w.heap.size, 0, none⟩ = some (.int .i64 0) := by simp
  have s1 : (w.alloc (.cells #[.int .i64 0, .int .i64 0] 60)).cell? ⟨w.heap.size, 1, none⟩ = some (.int .i64 0) := by simp
  have f0 : ∀ i, (w.alloc (.cells #[.int .i64 0, .int .i64 0] 60)).frozen? ⟨w.heap.size, i, none⟩ = false := fun i => World.frozen?_alloc_at _ _ _ _ rfl
  go_enter Tryd.func48, Tryd.ntmps48
  go_wp2_with fail
  refine W1.out.mono ?_
  rintro e w2 ⟨rfl, B2⟩
  have lt1 := cell_lt s0
  have t0 := draw_old B2 s0
  have t1 := draw_old B2 s1
  have g0 : w2.frozen? ⟨w.heap.size, 0, none⟩ = false := by rw [B2.frozen (p := ⟨w.heap.size, 0, none⟩) lt1]; exact f0 0
  have g1 : w2.frozen? ⟨w.heap.size, 1, none⟩ = false := by rw [B2.frozen (p := ⟨w.heap.size, 1, none⟩) lt1]; exact f0 1
  have B3 : Below w.heap.size w w2 := B1.trans (B2.mono B1.size)
  have ge : Hid (w.heap.size ≤ w.heap.size) := Nat.le_refl _
  have lt2 : w.heap.size < w2.heap.size := cell_lt t0
  clear W1 WF s0 s1 f0 B1 B2 lt1
  generalize hna : w.heap.size = na at t0 t1 g0 g1 lt2 ⊢
  go_wp2_with fail
  have hB : Below w2.heap.size w2 (w2.alloc (.cells #[.int .i64 z, .int .i64 p] 60)) := below_one
  have u0 := draw_old hB t0
  have u1 := draw_old hB t1
  have h0 : (w2.alloc (.cells #[.int .i64 z, .int .i64 p] 60)).frozen? ⟨na, 0, none⟩ = false := by rw [hB.frozen (p := ⟨na, 0, none⟩) lt2]; exact g0
  have h1 : (w2.alloc (.cells #[.int .i64 z, .int .i64 p] 60)).frozen? ⟨na, 1, none⟩ = false := by rw [hB.frozen (p := ⟨na, 1, none⟩) lt2]; exact g1
  have v0 : (w2.alloc (.cells #[.int .i64 z, .int .i64 p] 60)).cell? ⟨w2.heap.size, 0, none⟩ = some (.int .i64 z) := by simp
  have v1 : (w2.alloc (.cells #[.int .i64 z, .int .i64 p] 60)).cell? ⟨w2.heap.size, 1, none⟩ = some (.int .i64 p) := by simp
  have B4 := B3.trans (hB.mono B3.size)
  have ne : w2.heap.size ≠ na := by omega
  clear t0 t1 g0 g1 hB B3 lt2
  generalize w2.heap.size = nf at *
  generalize w2.alloc (.cells #[.int .i64 z, .int .i64 p] 60) = w3 at *
  go_region
  all_goals
    go_wp2_with fail
    refine bodyPost_ret (v := .tuple #[.int .i64 0, .agg #[.int .i64 z, .int .i64 p]]) ?_ rfl ⟨rfl, ?_⟩
    · simp [results, Tryd.results48, go_sem, u0, u1]
    · subst hna
      exact below_drewN ((B4.setCell (p := ⟨w.heap.size, 0, none⟩) (Nat.le_refl _) _).setCell (p := ⟨w.heap.size, 1, none⟩) (Nat.le_refl _) _) 1
/-- the answer's fault and the weights' fault, as they lie -/
structure BakeAt (w : World) (na nf : Nat) : Prop where
  a0 : w.cell? ⟨na, 0, none⟩ = some (.int .i64 0)
  a1 : w.cell? ⟨na, 1, none⟩ = some (.int .i64 0)
  g0 : w.frozen? ⟨na, 0, none⟩ = false
  g1 : w.frozen? ⟨na, 1, none⟩ = false
  f0 : w.cell? ⟨nf, 0, none⟩ = some (.int .i64 0)
  f1 : w.cell? ⟨nf, 1, none⟩ = some (.int .i64 (-1))
theorem BakeAt.below {w w' : World} {na nf : Nat} (h : BakeAt w na nf) (hB : Below w.heap.size w w') : BakeAt w' na nf :=
  ⟨draw_old hB h.a0, draw_old hB h.a1, by rw [hB.frozen (p := ⟨na, 0, none⟩) (cell_lt h.a0)]; exact h.g0, by rw [hB.frozen (p := ⟨na, 1, none⟩) (cell_lt h.a1)]; exact h.g1, draw_old hB h.f0, draw_old hB h.f1⟩
theorem BakeAt.kept {w w' : World} {na nf : Nat} {X : List Nat} (h : BakeAt w na nf) (hK : Kept X w w') (ha : na ∉ X) (hf : nf ∉ X) : BakeAt w' na nf :=
  ⟨hK.old h.a0 ha, hK.old h.a1 ha, by rw [hK.frozen (p := ⟨na, 0, none⟩) (cell_lt h.a0) ha]; exact h.g0, by rw [hK.frozen (p := ⟨na, 1, none⟩) (cell_lt h.a1) ha]; exact h.g1, hK.old h.f0 hf, hK.old h.f1 hf⟩
theorem RefDrawAt.kept {w w' : World} {D L O n : Nat} {H : Int} {d : DS} {X : List Nat} (h : RefDrawAt w D L O n H d) (hK : Kept X w w') (hD : D ∉ X) (hL : L ∉ X) (hO : O ∉ X) : RefDrawAt w' D L O n H d :=
  ⟨hK.old h.c0 hD, hK.old h.c1 hD, hK.old h.c2 hD, fun k hk => hK.old (h.l k hk) hL, fun k hk => hK.old (h.o k hk) hO⟩
theorem tri_ints (w : World) (c l r : Int) (t : TypeId) : Ints (w.alloc (.cells #[.int .i64 c, .int .i64 l, .int .i64 r] t)) w.heap.size 0 3 (tri c l r) := fun i hi => by
  have : i = 0 ∨ i = 1 ∨ i = 2 := by omega
  rcases this with rfl | rfl | rfl <;> exact cell_new _ _ _ _ _ _ rfl rfl

set_option maxRecDepth 100000 in
set_option maxHeartbeats 4000000 in
theorem ref_baker_fine (b off n cap seed : Nat) (W : Nat → Int) (c l r : Int) (h : TurnOk c l r) (hs : seed < W64) (w : World) (hI : Ints w b off n W) (hb : b < w.heap.size) (hW : Weights n W) (h0 : sumTo W n ≠ 0) :
    Calls Tryd.prog 48 #[.slice (some ⟨b, off, none⟩) n cap, .int .u64 seed, .int .i64 c, .int .i64 l, .int .i64 r] w fun e w' => ∃ k, e = .returned (.tuple #[.int .i64 k, .agg #[.int .i64 0, .int .i64 (-1)]]) ∧ Turn n W seed c l r k ∧ Below w.heap.size w w' := by
  obtain ⟨⟨c0, c1⟩, ⟨l0, l1⟩, r0, r1⟩ := h
  have n1 := hW.n1
  have n64 := hW.n64
  have sm := hW.sum
  have HS := hide hs
  have step : ∀ {u v : World}, Below w.heap.size w u → Below u.heap.size u v → Below w.heap.size w v := fun a c => a.trans (c.mono a.size)
  have B1 : Below w.heap.size w (w.alloc (.cells #[.int .i64 0, .int .i64 0] 60)) := below_one
  have W1 := hide (wf_fine b off n cap W _ (hI.below B1 hb) hW 0 (.inr ⟨rfl, h0⟩))
  have s0 : (w.alloc (.cells #[.int .i64 0, .int .i64 0] 60)).cell? ⟨w.heap.size, 0, none⟩ = some (.int .i64 0) := by simp
  have s1 : (w.alloc (.cells #[.int .i64 0, .int .i64 0] 60)).cell? ⟨w.heap.size, 1, none⟩ = some (.int .i64 0) := by simp
  have f0 : ∀ i, (w.alloc (.cells #[.int .i64 0, .int .i64 0] 60)).frozen? ⟨w.heap.size, i, none⟩ = false := fun i => World.frozen?_alloc_at _ _ _ _ rfl
  clear hs
  go_enter Tryd.func48, Tryd.ntmps48
  go_wp2_with fail
  refine W1.out.mono ?_
  rintro e w2 ⟨rfl, B2⟩
  go_wp2_with fail
  have B3 := step B1 B2
  have hB : Below w2.heap.size w2 (w2.alloc (.cells #[.int .i64 0, .int .i64 (-1)] 60)) := below_one
  have T0 := draw_old B2 s0
  have T1 := draw_old B2 s1
  have K3 : BakeAt (w2.alloc (.cells #[.int .i64 0, .int .i64 (-1)] 60)) w.heap.size w2.heap.size :=
    ⟨draw_old hB T0, draw_old hB T1, by rw [hB.frozen (p := ⟨w.heap.size, 0, none⟩) (cell_lt T0), B2.frozen (p := ⟨w.heap.size, 0, none⟩) (cell_lt s0)]; exact f0 0, by rw [hB.frozen (p := ⟨w.heap.size, 1, none⟩) (cell_lt T1), B2.frozen (p := ⟨w.heap.size, 1, none⟩) (cell_lt s1)]; exact f0 1, by simp, by simp⟩
  have B4 := step B3 hB
  have ne : Hid (w.heap.size < w2.heap.size) := cell_lt T0
  clear W1 s0 s1 f0 B1 B2 B3 hB T0 T1
  generalize hnf : w2.heap.size = nf at K3 ne ⊢
  generalize w2.alloc (.cells #[.int .i64 0, .int .i64 (-1)] 60) = w3 at *
  refine (ref_newDraw b off n cap W w3 (hI.below B4 hb) (Nat.lt_of_lt_of_le hb B4.size) hW).mono ?_
  rintro e w4 ⟨D, L, O, rfl, _, hD, B5⟩
  obtain ⟨H, eH⟩ : ∃ H : Nat, sumTo W n = H := ⟨(sumTo W n).toNat, by omega⟩
  rw [eH] at hD
  have H1 : 1 ≤ H := by omega
  have H2 : H ≤ 68719476736 := by omega
  have EH := hide eH
  clear eH sm h0
  have K4 := K3.below B5
  have B6 := step B4 B5
  have hT : Below w4.heap.size w4 (w4.alloc (.cells #[.int .i64 c, .int .i64 l, .int .i64 r] 3)) := below_one
  have M := hide (ref_mix (some ⟨w4.heap.size, 0, none⟩) w4.heap.size 0 3 3 seed (tri c l r) HS.out (by omega) _ (fun _ => rfl) (fun _ => by simp) (tri_ints w4 c l r 3))
  clear K3 B4 B5
  go_wp2_with fail
  refine M.out.mono ?_
  rintro e w5 ⟨rfl, B7⟩
  have hm := hide (mixTo_lt (tri c l r) seed HS.out 3)
  have B8 := step (step B6 hT) B7
  have K5 := (K4.below hT).below B7
  have hD5 := (hD.below hT).below B7
  clear M B6 hT B7 K4 hD
  have hL6 := lot_new w5 (mixTo (tri c l r) seed 3) hm.out 126
  have hB6 : Below w5.heap.size w5 (w5.alloc (.cells #[.int .u64 (mixTo (tri c l r) seed 3)] 126)) := below_one
  have K6 := K5.below hB6
  have hD6 := hD5.below hB6
  have B9 := step B8 hB6
  have x1 : w5.heap.size ≠ w.heap.size := by have : w.heap.size < w5.heap.size := cell_lt K5.a0; omega
  have x2 : w5.heap.size ≠ nf := by have : nf < w5.heap.size := cell_lt K5.f0; omega
  have x3 : w5.heap.size ≠ D := by have : D < w5.heap.size := cell_lt hD5.c0; omega
  have x4 : w5.heap.size ≠ L := by have : L < w5.heap.size := cell_lt (hD5.l 0 (by omega)); omega
  have x5 : w5.heap.size ≠ O := by have : O < w5.heap.size := cell_lt (hD5.o 0 (by omega)); omega
  have x6 : Hid (w.heap.size ≤ w5.heap.size) := B8.size
  generalize hms : mixTo (tri c l r) seed 3 = ms at *
  clear K5 hD5 B8 hB6
  go_wp2_with fail
  refine (ref_below w5.heap.size ms n _ hL6 n1 (by omega)).mono ?_
  rintro e w7 ⟨v1, t1, rfl, hv1, hL7, hK7⟩
  have K7 := K6.kept hK7 (by simp; omega) (by simp; omega)
  have hD7 := hD6.kept hK7 (by simp; omega) (by simp; omega) (by simp; omega)
  have B10 := B9.trans (hK7.below B9.size (by simp; exact x6.out))
  have cD := hD7.c0
  have lv1 := hide (hv1.lt (by omega)).1
  have HV1 := hide hv1
  clear hL6 K6 hD6 B9 hK7 hv1
  go_wp2_with fail
  refine (ref_below w5.heap.size t1 H _ hL7 H1 (by omega)).mono ?_
  rintro e w8 ⟨v2, t2, rfl, hv2, hL8, hK8⟩
  have K8 := K7.kept hK8 (by simp; omega) (by simp; omega)
  have hD8 := hD7.kept hK8 (by simp; omega) (by simp; omega) (by simp; omega)
  have B11 := B10.trans (hK8.below B10.size (by simp; exact x6.out))
  have HT : Hid (Turn n W seed c l r ((dend n W).pick v1 v2)) := ⟨v1, t1, v2, t2, by rw [hms]; exact HV1.out, by rw [EH.out]; exact hv2, rfl⟩
  have P := fun w' h => ref_pick D L O n v1 v2 H (dend n W) w' h lv1.out
  have k0 := K8.a0
  have k1 := K8.a1
  have k2 := K8.g0
  have k3 := K8.g1
  have k4 := K8.f0
  have k5 := K8.f1
  have nn : nf ≠ w.heap.size := by have := ne.out; omega
  clear hL7 K7 hD7 B10 hK8 hv2 cD hL8 K8
  generalize (dend n W).pick v1 v2 = q at *
  generalize hna : w.heap.size = na at k0 k1 k2 k3 nn ⊢
  go_wp2_with fail
  go_region_with (go_at_call 102; refine (P _ (by first | exact hD8 | exact hD8.below (below_drewN (Below.refl _ _) 1))).mono ?_; rintro e w' ⟨rfl, rfl⟩)
  all_goals
    go_wp2_with fail
    refine bodyPost_ret (v := .tuple #[.int .i64 q, .agg #[.int .i64 0, .int .i64 (-1)]]) ?_ rfl ⟨q, rfl, HT.out, ?_⟩
    · simp [results, Tryd.results48, go_sem, k0, k1]
    · subst hna
      exact below_drewN ((B11.setCell (p := ⟨w.heap.size, 0, none⟩) (Nat.le_refl _) _).setCell (p := ⟨w.heap.size, 1, none⟩) (Nat.le_refl _) _) 1
end Go.Proofs.YtlhffdmhbplpjabDoor
