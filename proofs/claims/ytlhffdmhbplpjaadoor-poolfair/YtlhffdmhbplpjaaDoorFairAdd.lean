/-
  The law PoolFair: a round whose act is adding.
-/
import Derived.Test.YtlhffdmhbplpjaaDoorFairLoop
namespace Go.Proofs.YtlhffdmhbplpjaaDoor
open Go.RowKit

set_option maxRecDepth 1000000 in
set_option maxHeartbeats 8000000 in
theorem fair_add (b off len cap k pb pm : Nat) (Kk : ByteArray) (ok nk : Int) (A : Nat → Addr) (w wr : World) (x : St) (Q0 : Exit → Act → World → Prop) (c1 c3 c15 c16 c17 c18 c19 c20 c21 c22 c23 c24 c25 c26 : Value) (u2 u6 u7 u8 u9 u10 u11 u12 u13 u14 u27 u28 u29 u30 u31 u32 u33 u34 u35 u36 u37 u38 u39 u40 u41 u42 u43 u44 u45 u46 u47 u48 u49 u50 u51 u52 u53 u54 u55 u56 u57 u58 u59 u60 u61 u62 u63 u64 u65 u66 u67 u68 u69 u70 u71 u72 u73 u74 u75 u76 u77 u78 u79 u80 u81 u82 u83 u84 u85 u86 u87 u88 u89 u90 u91 u92 u93 u94 u95 u96 u97 u98 u99 u100 u101 u102 u103 u104 u105 u106 u107 u108 u109 u110 u111 u112 u113 u114 u115 u116 u117 u118 u119 u120 u121 u122 u123 u124 u125 u126 u127 u128 u129 u130 u131 u132 u133 u134 u135 u136 u137 u138 u139 u140 u141 u142 u143 u144 u145 u146 u147 u148 u149 u150 u151 u152 u153 u154 u155 u156 u157 u158 u159 u160 u161 u162 u163 u164 u165 u166 u167 u168 u169 u170 u171 u172 u173 u174 u175 u176 u177 u178 u179 u180 u181 u182 u183 u184 u185 u186 u187 u188 u189 u190 u191 u192 u193 u194 u195 u196 u197 : Value) (hL : PoolLaid w A true) (gpb : w.heap.size ≤ pb) (gpm : w.heap.size ≤ pm) (hlt : k < len) (h100 : len ≤ 100) (hx : x.Ok) (hP : PoolAt wr pb pm x (4 * k)) (hB : Below w.heap.size w wr) (a0 : wr.cell? ⟨b, off + k * 3, none⟩ = some (.string Kk)) (a1 : wr.cell? ⟨b, off + k * 3 + 1, none⟩ = some (.int .i64 ok)) (a2 : wr.cell? ⟨b, off + k * 3 + 2, none⟩ = some (.int .i64 nk)) (hj : (Kk.toList == [106, 111, 105, 110]) = false) (ht : (Kk.toList == [116, 97, 107, 101]) = false) (hl : (Kk.toList == [108, 101, 97, 118, 101]) = false) (ha : (Kk.toList == [97, 100, 100]) = true) :
    Code.wp Tryd.prog fairBody (Exit.then (fun a' w'' => FairI w len pb pm (.slice (some ⟨b, off, none⟩) len cap) c1 c3 c15 c16 c17 c18 c19 c20 c21 c22 c23 c24 c25 c26 a' w'' ∧ FairMu len a' w'' < FairMu len ⟨#[(.slice (some ⟨b, off, none⟩) len cap), c1, u2, c3, .pointer (some ⟨pb, 0, none⟩), .int .i64 k, u6, u7, u8, u9, u10, u11, u12, u13, u14, c15, c16, c17, c18, c19, c20, c21, c22, c23, c24, c25, c26, u27, u28, u29, u30, u31, u32, u33, u34, u35, u36, u37, u38, u39, u40, u41, u42, u43, u44, u45, u46, u47, u48, u49, u50, u51, u52, u53, u54, u55, u56, u57, u58, u59, u60, u61, u62, u63, u64, u65, u66, u67, u68, u69, u70, u71, u72, u73, u74, u75, u76, u77, u78, u79, u80, u81, u82, u83, u84, u85, u86, u87, u88, u89, u90, u91, u92, u93, u94, u95, u96, u97, u98, u99, u100, u101, u102, u103, u104, u105, u106, u107, u108, u109, u110, u111, u112, u113, u114, u115, u116, u117, u118, u119, u120, u121, u122, u123, u124, u125, u126, u127, u128, u129, u130, u131, u132, u133, u134, u135, u136, u137, u138, u139, u140, u141, u142, u143, u144, u145, u146, u147, u148, u149, u150, u151, u152, u153, u154, u155, u156, u157, u158, u159, u160, u161, u162, u163, u164, u165, u166, u167, u168, u169, u170, u171, u172, u173, u174, u175, u176, u177, u178, u179, u180, u181, u182, u183, u184, u185, u186, u187, u188, u189, u190, u191, u192, u193, u194, u195, u196, u197], []⟩ wr) Q0) ⟨#[(.slice (some ⟨b, off, none⟩) len cap), c1, u2, c3, .pointer (some ⟨pb, 0, none⟩), .int .i64 k, u6, u7, u8, u9, u10, u11, u12, u13, u14, c15, c16, c17, c18, c19, c20, c21, c22, c23, c24, c25, c26, u27, u28, u29, u30, u31, u32, u33, u34, u35, u36, u37, u38, u39, u40, u41, u42, u43, u44, u45, u46, u47, u48, u49, u50, u51, u52, u53, u54, u55, u56, u57, u58, u59, u60, u61, u62, u63, u64, u65, u66, u67, u68, u69, u70, u71, u72, u73, u74, u75, u76, u77, u78, u79, u80, u81, u82, u83, u84, u85, u86, u87, u88, u89, u90, u91, u92, u93, u94, u95, u96, u97, u98, u99, u100, u101, u102, u103, u104, u105, u106, u107, u108, u109, u110, u111, u112, u113, u114, u115, u116, u117, u118, u119, u120, u121, u122, u123, u124, u125, u126, u127, u128, u129, u130, u131, u132, u133, u134, u135, u136, u137, u138, u139, u140, u141, u142, u143, u144, u145, u146, u147, u148, u149, u150, u151, u152, u153, u154, u155, u156, u157, u158, u159, u160, u161, u162, u163, u164, u165, u166, u167, u168, u169, u170, u171, u172, u173, u174, u175, u176, u177, u178, u179, u180, u181, u182, u183, u184, u185, u186, u187, u188, u189, u190, u191, u192, u193, u194, u195, u196, u197], []⟩ wr := by
  conv => arg 2; whnf
  have hm6 := make_six
  have hg : 4 * k ≤ 1000000 := by omega
  go_wp2_with fail
  have hB4 : Below w.heap.size w ((wr.alloc (.cells #[.string Kk, .int .i64 ok, .int .i64 nk] 56)).alloc (.cells six 3)) := (hB.alloc hB.size _).alloc (Nat.le_trans hB.size (by simp)) _
  have hK4 : Kept [] wr ((wr.alloc (.cells #[.string Kk, .int .i64 ok, .int .i64 nk] 56)).alloc (.cells six 3)) := Kept.of_below (((Below.refl _ _).alloc (Nat.le_refl _) _).alloc (by simp) _)
  have hA4 : ActAt ((wr.alloc (.cells #[.string Kk, .int .i64 ok, .int .i64 nk] 56)).alloc (.cells six 3)) wr.heap.size Kk ok nk := (act_new wr _ _ _ _).kept (Kept.of_below (X := []) ((Below.refl _ _).alloc (Nat.le_refl _) _)) (by simp)
  have hW4 : WasTo ((wr.alloc (.cells #[.string Kk, .int .i64 ok, .int .i64 nk] 56)).alloc (.cells six 3)) (wr.heap.size + 1) x 0 := by
    have := was_none (wr.alloc (.cells #[.string Kk, .int .i64 ok, .int .i64 nk] 56)) x 3
    simpa using this
  have hP4 := hP.kept hK4 (by simp) (by simp)
  have z1 : wr.heap.size ≠ pb := by have := hP.lt.1; omega
  have z2 : wr.heap.size ≠ pm := by have := hP.lt.2; omega
  have z3 : wr.heap.size + 1 ≠ pb := by have := hP.lt.1; omega
  have z4 : wr.heap.size + 1 ≠ pm := by have := hP.lt.2; omega
  have z5 : wr.heap.size ≠ wr.heap.size + 1 := by omega
  have gnw : w.heap.size ≤ wr.heap.size + 1 := Nat.le_trans hB.size (by omega)
  clear hP hK4 a0 a1 a2 hB
  generalize (wr.alloc (.cells #[.string Kk, .int .i64 ok, .int .i64 nk] 56)).alloc (.cells six 3) = w4 at *
  generalize wr.heap.size + 1 = nw at *
  generalize wr.heap.size = na at *
  go_loopw [8] (fun o w' => ∃ j : Nat, j ≤ 6 ∧ o = .int .i64 j ∧ PoolAt w' pb pm x (4 * k) ∧ WasTo w' nw x j ∧ ActAt w' na Kk ok nk ∧ Below w.heap.size w w') (fun o _ => 6 - (intOf o).toNat)
  case atStart => exact ⟨0, by omega, rfl, hP4, hW4, hA4, hB4⟩
  case round =>
    obtain ⟨j, hj6, rfl, hP5, hW5, hA5, hB5⟩ := hrel
    clear hP4 hW4 hA4 hB4
    by_cases hl6 : j < 6
    · go_wp2_with fail
      refine (prog_value pb pm _ x hx j (WalkArith.wf_i64 (by omega)) _ hP5).mono ?_
      rintro e w6 ⟨rfl, m6, hw⟩
      have hP6 : PoolAt w6 pb pm x (4 * k) := by rw [hw]; exact hP5.drewN m6
      have hW6 : WasTo w6 nw x j := by rw [hw]; exact hW5
      have hA6 : ActAt w6 na Kk ok nk := by rw [hw]; exact ⟨hA5.s0, hA5.s1, hA5.s2⟩
      have hB6 : Below w.heap.size w w6 := by rw [hw]; exact below_drewN hB5 m6
      clear hw hP5 hW5 hA5 hB5
      obtain ⟨cj, fj⟩ := hW6 j hl6
      go_wp2
      go_roundw
      case rel =>
        have hKs : Kept [nw] w6 (w6.setCell ⟨nw, j, none⟩ (.int .i64 (x.val j))) := (Kept.refl _ _).setCell (by simp) _
        exact ⟨j + 1, by omega, by go_num, hP6.kept hKs (by simp [z3.symm]) (by simp [z4.symm]), hW6.step hl6, hA6.kept hKs (by simp [z5]), hB6.setCell gnw _⟩
      case measure => simp [intOf]; omega
    · obtain rfl : j = 6 := by omega
      have L5 := hL.below hB5
      obtain ⟨s0, s1, s2⟩ := hA5
      go_wp2_with fail
      refine (prog_add pb pm _ x hx nk A true _ L5 hP5).mono ?_
      rintro e w7 ⟨ev, rfl, hE, hP7, hK7⟩
      have hB7 : Below w.heap.size w w7 := hB5.trans (hK7.below hB5.size (by simp [gpb, gpm]))
      have hW7 := hW5.kept hK7 (by simp [z3, z4])
      have hA7 : ActAt w7 na Kk ok nk := ActAt.kept ⟨s0, s1, s2⟩ hK7 (by simp [z1, z2])
      have hy : (x.add nk).Ok := hx.add nk
      clear hP5 hW5 hB5 L5 s0 s1 s2 hK7
      by_cases hc : x.addC nk = 0
      · obtain rfl := hE.nil hc
        clear hE
        obtain ⟨y, ey⟩ : ∃ y, y = x.add nk := ⟨_, rfl⟩
        rw [← ey] at hP7 hy
        have EY := hide ey
        clear ey
        have HC := hide hc
        clear hc
        go_wp2_with fail
        go_loopw [11, 12] (fun s o w' => ∃ j : Nat, j ≤ 6 ∧ o = .int .i64 j ∧ s = .int .i64 (vs (y) j) ∧ PoolAt w' pb pm (y) (4 * k + 4) ∧ WasTo w' nw x 6 ∧ ActAt w' na Kk ok nk ∧ Below w.heap.size w w') (fun _ o _ => 6 - (intOf o).toNat)
        case atStart => exact ⟨0, by omega, rfl, rfl, hP7, hW7, hA7, hB7⟩
        case round =>
          obtain ⟨j, hj6, rfl, rfl, hP9, hW9, hA9, hB9⟩ := hrel
          clear hP7 hW7 hA7 hB7
          by_cases hl6 : j < 6
          · go_wp2_with fail
            refine (prog_value pb pm _ (y) hy j (WalkArith.wf_i64 (by omega)) _ hP9).mono ?_
            rintro e w10 ⟨rfl, m10, hw⟩
            have hP10 : PoolAt w10 pb pm (y) (4 * k + 4) := by rw [hw]; exact hP9.drewN m10
            have hW10 : WasTo w10 nw x 6 := by rw [hw]; exact hW9
            obtain ⟨s0, s1, s2⟩ : ActAt w10 na Kk ok nk := by rw [hw]; exact ⟨hA9.s0, hA9.s1, hA9.s2⟩
            have hB10 : Below w.heap.size w w10 := by rw [hw]; exact below_drewN hB9 m10
            clear hw hP9 hW9 hA9 hB9
            have cj := hW10.at j hl6
            have q0 := hy.val0 j
            have q1 := hy.val1 j
            have q2 := hy.t1
            have q3 := hx.val0 j
            have q4 := hx.val1 j
            have q5 := hx.t1
            have q6 := vs_bd hy j hj6
            by_cases hmine : (j : Int) = ok
            · have tm : ((j : Int) == ok) = true := by simp [hmine]
              have r1 : x.val j ≤ y.val j := by rw [EY.out]; exact hx.add_all _ _
              clear hmine
              go_wp2
              go_quiet (fail)
              go_wp2
              go_quiet (fail)
              go_wp2
              go_roundw
              case rel => exact ⟨j + 1, by omega, by go_num, rfl, hP10.drewN _, hW10, ⟨s0, s1, s2⟩, below_drewN hB10 _⟩
              case measure => simp [intOf]; omega
            · have tm : ((j : Int) == ok) = false := by simp [hmine]
              have r1 : x.val j ≤ y.val j := by rw [EY.out]; exact hx.add_all _ _
              clear hmine
              go_wp2
              go_quiet (fail)
              go_wp2
              go_quiet (fail)
              go_wp2
              go_roundw
              case rel => exact ⟨j + 1, by omega, by go_num, rfl, hP10.drewN _, hW10, ⟨s0, s1, s2⟩, below_drewN hB10 _⟩
              case measure => simp [intOf]; omega
          · obtain rfl : j = 6 := by omega
            have e6 := vs_six hy
            have e7 := vs_bd hy 6 (by omega)
            clear hW9 hA9
            by_cases hz : (y).A = 0
            · have e8 := hy.none hz
              have tz : ((y).A == 0) = true := by simp [hz]
              have e9 : ¬ 0 < (y).T := by omega
              have HE := hide e8
              clear hz e8
              go_wp2_with (first | (go_at_call 37; refine (prog_total pb pm _ (y) _ hP9).mono ?_; rintro e w11 ⟨rfl, rfl⟩) | (go_at_call 38; refine (prog_all pb pm _ (y) _ hP9).mono ?_; rintro e w11 ⟨rfl, rfl⟩))
              refine ⟨?_, ?_⟩
              · unfold FairI
                refine ⟨_, _, _, _, _, _, _, _, _, _, _, _, _, _, _, _, _, _, _, _, _, _, _, _, _, _, _, _, _, _, _, _, _, _, _, _, _, _, _, _, _, _, _, _, _, _, _, _, _, _, _, _, _, _, _, _, _, _, _, _, _, _, _, _, _, _, _, _, _, _, _, _, _, _, _, _, _, _, _, _, _, _, _, _, _, _, _, _, _, _, _, _, _, _, _, _, _, _, _, _, _, _, _, _, _, _, _, _, _, _, _, _, _, _, _, _, _, _, _, _, _, _, _, _, _, _, _, _, _, _, _, _, _, _, _, _, _, _, _, _, _, _, _, _, _, _, _, _, _, _, _, _, _, _, _, _, _, _, _, _, _, _, _, _, _, _, _, _, _, _, _, _, _, _, _, _, _, _, _, _, _, _, ?_, rfl⟩
                exact ⟨k + 1, y, by omega, by go_num, hy, hP9, hB9⟩
              · simp [FairMu, intOf]; omega
            · have tz : ((y).A == 0) = false := by simp [hz]
              clear hz
              go_wp2_with (first | (go_at_call 37; refine (prog_total pb pm _ (y) _ hP9).mono ?_; rintro e w11 ⟨rfl, rfl⟩) | (go_at_call 38; refine (prog_all pb pm _ (y) _ hP9).mono ?_; rintro e w11 ⟨rfl, rfl⟩))
              refine ⟨?_, ?_⟩
              · unfold FairI
                refine ⟨_, _, _, _, _, _, _, _, _, _, _, _, _, _, _, _, _, _, _, _, _, _, _, _, _, _, _, _, _, _, _, _, _, _, _, _, _, _, _, _, _, _, _, _, _, _, _, _, _, _, _, _, _, _, _, _, _, _, _, _, _, _, _, _, _, _, _, _, _, _, _, _, _, _, _, _, _, _, _, _, _, _, _, _, _, _, _, _, _, _, _, _, _, _, _, _, _, _, _, _, _, _, _, _, _, _, _, _, _, _, _, _, _, _, _, _, _, _, _, _, _, _, _, _, _, _, _, _, _, _, _, _, _, _, _, _, _, _, _, _, _, _, _, _, _, _, _, _, _, _, _, _, _, _, _, _, _, _, _, _, _, _, _, _, _, _, _, _, _, _, _, _, _, _, _, _, _, _, _, _, _, _, ?_, rfl⟩
                exact ⟨k + 1, y, by omega, by go_num, hy, hP9, hB9⟩
              · simp [FairMu, intOf]; omega
      · obtain ⟨i, rfl⟩ := hE.err hc
        rw [St.add_no rfl hc] at hP7 hy
        clear hE hc
        go_wp2_with fail
        go_loopw [11, 12] (fun s o w' => ∃ j : Nat, j ≤ 6 ∧ o = .int .i64 j ∧ s = .int .i64 (vs (x) j) ∧ PoolAt w' pb pm (x) (4 * k + 4) ∧ WasTo w' nw x 6 ∧ ActAt w' na Kk ok nk ∧ Below w.heap.size w w') (fun _ o _ => 6 - (intOf o).toNat)
        case atStart => exact ⟨0, by omega, rfl, rfl, hP7, hW7, hA7, hB7⟩
        case round =>
          obtain ⟨j, hj6, rfl, rfl, hP9, hW9, hA9, hB9⟩ := hrel
          clear hP7 hW7 hA7 hB7
          by_cases hl6 : j < 6
          · go_wp2_with fail
            refine (prog_value pb pm _ (x) hy j (WalkArith.wf_i64 (by omega)) _ hP9).mono ?_
            rintro e w10 ⟨rfl, m10, hw⟩
            have hP10 : PoolAt w10 pb pm (x) (4 * k + 4) := by rw [hw]; exact hP9.drewN m10
            have hW10 : WasTo w10 nw x 6 := by rw [hw]; exact hW9
            obtain ⟨s0, s1, s2⟩ : ActAt w10 na Kk ok nk := by rw [hw]; exact ⟨hA9.s0, hA9.s1, hA9.s2⟩
            have hB10 : Below w.heap.size w w10 := by rw [hw]; exact below_drewN hB9 m10
            clear hw hP9 hW9 hA9 hB9
            have cj := hW10.at j hl6
            have q0 := hy.val0 j
            have q1 := hy.val1 j
            have q2 := hy.t1
            have q3 := hx.val0 j
            have q4 := hx.val1 j
            have q5 := hx.t1
            have q6 := vs_bd hy j hj6
            by_cases hmine : (j : Int) = ok
            · have tm : ((j : Int) == ok) = true := by simp [hmine]
              have r1 : (x.val j != x.val j) = false := by simp
              have r2 : decide (x.val j < x.val j) = false := by simp
              clear hmine
              go_wp2
              go_quiet (fail)
              go_wp2
              go_quiet (fail)
              go_wp2
              go_roundw
              case rel => exact ⟨j + 1, by omega, by go_num, rfl, hP10.drewN _, hW10, ⟨s0, s1, s2⟩, below_drewN hB10 _⟩
              case measure => simp [intOf]; omega
            · have tm : ((j : Int) == ok) = false := by simp [hmine]
              have r1 : (x.val j != x.val j) = false := by simp
              have r2 : decide (x.val j < x.val j) = false := by simp
              clear hmine
              go_wp2
              go_quiet (fail)
              go_wp2
              go_quiet (fail)
              go_wp2
              go_roundw
              case rel => exact ⟨j + 1, by omega, by go_num, rfl, hP10.drewN _, hW10, ⟨s0, s1, s2⟩, below_drewN hB10 _⟩
              case measure => simp [intOf]; omega
          · obtain rfl : j = 6 := by omega
            have e6 := vs_six hy
            have e7 := vs_bd hy 6 (by omega)
            clear hW9 hA9
            by_cases hz : (x).A = 0
            · have e8 := hy.none hz
              have tz : ((x).A == 0) = true := by simp [hz]
              have e9 : ¬ 0 < (x).T := by omega
              have HE := hide e8
              clear hz e8
              go_wp2_with (first | (go_at_call 37; refine (prog_total pb pm _ (x) _ hP9).mono ?_; rintro e w11 ⟨rfl, rfl⟩) | (go_at_call 38; refine (prog_all pb pm _ (x) _ hP9).mono ?_; rintro e w11 ⟨rfl, rfl⟩))
              refine ⟨?_, ?_⟩
              · unfold FairI
                refine ⟨_, _, _, _, _, _, _, _, _, _, _, _, _, _, _, _, _, _, _, _, _, _, _, _, _, _, _, _, _, _, _, _, _, _, _, _, _, _, _, _, _, _, _, _, _, _, _, _, _, _, _, _, _, _, _, _, _, _, _, _, _, _, _, _, _, _, _, _, _, _, _, _, _, _, _, _, _, _, _, _, _, _, _, _, _, _, _, _, _, _, _, _, _, _, _, _, _, _, _, _, _, _, _, _, _, _, _, _, _, _, _, _, _, _, _, _, _, _, _, _, _, _, _, _, _, _, _, _, _, _, _, _, _, _, _, _, _, _, _, _, _, _, _, _, _, _, _, _, _, _, _, _, _, _, _, _, _, _, _, _, _, _, _, _, _, _, _, _, _, _, _, _, _, _, _, _, _, _, _, _, _, _, ?_, rfl⟩
                exact ⟨k + 1, x, by omega, by go_num, hy, hP9, hB9⟩
              · simp [FairMu, intOf]; omega
            · have tz : ((x).A == 0) = false := by simp [hz]
              clear hz
              go_wp2_with (first | (go_at_call 37; refine (prog_total pb pm _ (x) _ hP9).mono ?_; rintro e w11 ⟨rfl, rfl⟩) | (go_at_call 38; refine (prog_all pb pm _ (x) _ hP9).mono ?_; rintro e w11 ⟨rfl, rfl⟩))
              refine ⟨?_, ?_⟩
              · unfold FairI
                refine ⟨_, _, _, _, _, _, _, _, _, _, _, _, _, _, _, _, _, _, _, _, _, _, _, _, _, _, _, _, _, _, _, _, _, _, _, _, _, _, _, _, _, _, _, _, _, _, _, _, _, _, _, _, _, _, _, _, _, _, _, _, _, _, _, _, _, _, _, _, _, _, _, _, _, _, _, _, _, _, _, _, _, _, _, _, _, _, _, _, _, _, _, _, _, _, _, _, _, _, _, _, _, _, _, _, _, _, _, _, _, _, _, _, _, _, _, _, _, _, _, _, _, _, _, _, _, _, _, _, _, _, _, _, _, _, _, _, _, _, _, _, _, _, _, _, _, _, _, _, _, _, _, _, _, _, _, _, _, _, _, _, _, _, _, _, _, _, _, _, _, _, _, _, _, _, _, _, _, _, _, _, _, _, ?_, rfl⟩
                exact ⟨k + 1, x, by omega, by go_num, hy, hP9, hB9⟩
              · simp [FairMu, intOf]; omega
end Go.Proofs.YtlhffdmhbplpjaaDoor
