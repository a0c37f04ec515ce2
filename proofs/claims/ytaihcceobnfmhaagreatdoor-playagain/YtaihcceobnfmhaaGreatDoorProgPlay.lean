/-
  The program's plays (package play), by their contracts: a block by whose turn it is, evidence, a call by its number, an answer, a script, and sums.
-/
import Derived.Test.YtaihcceobnfmhaaGreatDoorBegunX
import Derived.Test.YtaihcceobnfmhaaGreatDoorPlayRowX
import Derived.Test.YtaihcceobnfmhaaGreatDoorErrTellsX
import Derived.Deep.RegionWith
namespace Go.Proofs.YtaihcceobnfmhaaGreatDoor
open Go.RowKit Go.Deep

theorem Laid.chP {w : World} {A : Nat → Addr} (h : Laid w A) : ChLaid w A := ⟨⟨h.v1, h.v2, h.v3, h.v4, h.v5, h.v6, h.v7, h.v8⟩, h.v9⟩
theorem Ch.Fit.few {C : Ch} {j : Nat} (h : C.Fit j) (hj : j ≤ 400) : C.Few :=
  ⟨Nat.le_trans h.k hj, Nat.le_trans h.l hj, by have := h.y; have := h.v; omega, Nat.le_trans h.v hj⟩
set_option maxRecDepth 100000 in
theorem pl_bake (F : Nat → Prop) (cb : Nat) (C : Ch) (hC : C.Ok) (hb : C.Few) (g : Nat) (hg : g ≤ 850000) (r : Int) (hr : TurnOk C.cyc C.lev r) (A : Nat → Addr) (w : World) (hL : ChLaid8 w A) (h : PCh F w cb C g) :
    Calls Tryz.prog 189 #[.pointer (some ⟨cb, 0, none⟩), .int .i64 r] w fun e w' => ∃ k, Turn 3 C.pic C.seed C.cyc C.lev r k ∧ ChEnd F cb g (C.bake k) 0 A w e w' := by
  go_enter Tryz.func189, Tryz.ntmps189
  go_wp2_with fail
  refine (pch_turn F cb C hC hb g r hr A w hL h).mono ?_
  rintro e w1 ⟨k, rfl, hT, hB1⟩
  have h1 := h.below hB1
  have M1 := h.stays hB1
  have L1 := hL.below hB1
  have HT := hide hT
  clear hT h hB1
  go_wp2_with fail
  refine (pch_bake_own F cb C hC hb g hg k r hr (fun k' h' => h'.one HT.out) A w1 L1 h1).mono ?_
  rintro e w2 ⟨ev, F2, rfl, hE, h2, M2⟩
  have M3 := M1.trans M2
  go_wp2_with fail
  go_ret
  exact ⟨k, HT.out, _, F2, rfl, hE, h2, M3⟩
set_option maxRecDepth 100000 in
theorem pl_ev (y b q k k4 d q72 e5 : Int) (q0 : 0 ≤ q) (q1 : q ≤ 1152921504606846975) (y2 : 0 ≤ y) (y3 : y ≤ 400) (hk : q / 18 = k) (hk4 : k % 4 = k4) (hd : y - k4 = d) (hq72 : q / 72 = q72) (he5 : q72 % 5 = e5) (w : World) :
    Calls Tryz.prog 188 #[.int .i64 y, .int .i64 b, .int .i64 q] w fun e w' => e = .returned (.agg #[.int .i64 b, .int .i64 d, .int .i64 e5]) ∧ Below w.heap.size w w' := by
  have k0 : 0 ≤ k := by omega
  have k1 : k ≤ 1152921504606846975 := by omega
  have x0 : 0 ≤ k4 := by omega
  have x4 : k4 < 4 := by omega
  have y0 : 0 ≤ q72 := by omega
  have y1 : q72 ≤ 1152921504606846975 := by omega
  have z0 : 0 ≤ e5 := by omega
  have z5 : e5 < 5 := by omega
  have d0 : -4 ≤ d := by omega
  have d1 : d ≤ 400 := by omega
  go_enter Tryz.func188, Tryz.ntmps188
  go_wp2
  exact bodyPost_ret (v := .agg #[.int .i64 b, .int .i64 d, .int .i64 e5]) (by simp [results, Tryz.results188, go_sem]) rfl ⟨rfl, (Below.refl _ _).alloc (Nat.le_refl _) _⟩
/-- what a number of a play made of the program's chain -/
def PCallEnd (F : Nat → Prop) (cb g : Nat) (C : Ch) (v : Int) (A : Nat → Addr) (w : World) (e : Ending) (w' : World) : Prop := ∃ a C', Played C v a C' ∧ ChEnd F cb g C' a A w e w'
set_option maxRecDepth 100000 in
set_option maxHeartbeats 2000000 in
theorem call_accuse (F : Nat → Prop) (cb : Nat) (C : Ch) (hC : C.Ok) (hb : C.Few) (g : Nat) (hg : g ≤ 850000) (q o b' b k n' k4 q72 e5 : Int) (q0 : 0 ≤ q) (q1 : q ≤ 1152921504606846975) (ho : q % 6 = o) (hb' : q / 6 = b') (hbb : b' % 3 = b) (hk : q / 18 = k) (hn' : k % 2000 = n') (hk4 : k % 4 = k4) (hq72 : q / 72 = q72) (he5 : q72 % 5 = e5) (A : Nat → Addr) (w : World) (hL : ChLaid w A) (h : PCh F w cb C g) :
    Calls Tryz.prog 141 #[.pointer (some ⟨cb, 0, none⟩), .int .i64 4, .int .i64 q] w (ChEnd F cb g (C.accuse o (b, (C.cyc : Int) - k4, e5)) (C.c.accC o (b, (C.cyc : Int) - k4, e5) C.cyc) A w) := by
  have o0 : 0 ≤ o := by omega
  have o6 : o < 6 := by omega
  have b0' : 0 ≤ b' := by omega
  have b1' : b' ≤ 1152921504606846975 := by omega
  have b0 : 0 ≤ b := by omega
  have b3 : b < 3 := by omega
  have k0 : 0 ≤ k := by omega
  have k1 : k ≤ 1152921504606846975 := by omega
  have n0 : 0 ≤ n' := by omega
  have n1 : n' < 2000 := by omega
  have x0 : 0 ≤ k4 := by omega
  have x4 : k4 < 4 := by omega
  have z0 : 0 ≤ e5 := by omega
  have z5 : e5 < 5 := by omega
  obtain ⟨y, hy⟩ : ∃ y : Int, (C.cyc : Int) = y := ⟨_, rfl⟩
  have y2 : 0 ≤ y := by omega
  have y3 : y ≤ 400 := by have := hb.y; omega
  obtain ⟨d, hd⟩ : ∃ d : Int, y - k4 = d := ⟨_, rfl⟩
  have d0 : -4 ≤ d := by omega
  have d1 : d ≤ 400 := by omega
  have CY := pch_cycle F cb C g w h
  have EV := hide (pl_ev y b q k k4 d q72 e5 q0 q1 y2 y3 hk hk4 hd hq72 he5)
  have AC := hide (fun w' (L' : ChLaid w' A) (g' : PCh F w' cb C g) => pch_accuse F cb C hC hb g hg o b d e5 (small_wf _ (by omega) (by omega)) (small_wf _ (by omega) (by omega)) (small_wf _ (by omega) (by omega)) (small_wf _ (by omega) (by omega)) A w' L' g')
  rw [hy, hd]
  rw [hy] at CY
  unfold Hid at AC
  rw [hy] at AC
  have ACC := hide AC
  clear AC hy hd
  go_enter Tryz.func141, Tryz.ntmps141
  go_wp2_with fail
  refine CY.mono ?_
  rintro e w1 ⟨rfl, hB1⟩
  go_wp2_with fail
  refine (EV.out w1).mono ?_
  rintro e w2 ⟨rfl, hB2⟩
  have B2 := hB1.trans (hB2.mono hB1.size)
  have h2 := h.below B2
  have M2 := h.stays B2
  have L2 := hL.below B2
  clear hB1 hB2 CY EV
  go_wp2_with fail
  refine (ACC.out w2 L2 h2).mono ?_
  rintro e w3 ⟨ev, F3, rfl, hE, h3, M3⟩
  have M4 := M2.trans M3
  go_wp2_with fail
  go_ret
  exact ⟨_, F3, rfl, hE, h3, M4⟩
set_option maxRecDepth 100000 in
set_option maxHeartbeats 4000000 in
theorem pl_call (F : Nat → Prop) (cb : Nat) (C : Ch) (hC : C.Ok) (j : Nat) (hj : j ≤ 400) (hf : C.Fit j) (g : Nat) (hg : g ≤ 850000) (v q m : Int) (v0 : 0 ≤ v) (hv : v ≤ 9223372036854775807) (hq : v / 8 = q) (hm : v % 8 = m) (A : Nat → Addr) (w : World) (hL : ChLaid w A) (h : PCh F w cb C g) :
    Calls Tryz.prog 141 #[.pointer (some ⟨cb, 0, none⟩), .int .i64 m, .int .i64 q] w (PCallEnd F cb g C v A w) := by
  have V0 := hide v0
  obtain ⟨o, ho⟩ : ∃ o, q % 6 = o := ⟨_, rfl⟩
  obtain ⟨b', hb'⟩ : ∃ b', q / 6 = b' := ⟨_, rfl⟩
  obtain ⟨b, hb⟩ : ∃ b, b' % 3 = b := ⟨_, rfl⟩
  obtain ⟨k, hk⟩ : ∃ k, q / 18 = k := ⟨_, rfl⟩
  obtain ⟨n', hn'⟩ : ∃ n', k % 2000 = n' := ⟨_, rfl⟩
  have q0 : 0 ≤ q := by omega
  have q1 : q ≤ 1152921504606846975 := by omega
  have m0 : 0 ≤ m := by omega
  have m8 : m < 8 := by omega
  have o0 : 0 ≤ o := by omega
  have o6 : o < 6 := by omega
  have b0' : 0 ≤ b' := by omega
  have b1' : b' ≤ 1152921504606846975 := by omega
  have b0 : 0 ≤ b := by omega
  have b3 : b < 3 := by omega
  have k0 : 0 ≤ k := by omega
  have k1 : k ≤ 1152921504606846975 := by omega
  have n0 : 0 ≤ n' := by omega
  have n1 : n' < 2000 := by omega
  have wo : (Lit.int .i64 o).wf = true := small_wf _ (by omega) (by omega)
  have wb : (Lit.int .i64 b).wf = true := small_wf _ (by omega) (by omega)
  have EO : Hid (pO v = o) := by unfold Hid pO; rw [hq]; exact ho
  have EB : Hid (pB v = b) := by unfold Hid pB; rw [hq, hb']; exact hb
  have EN : Hid (pN v = 1 + n') := by unfold Hid pN; rw [hq, hk, hn']; omega
  have EQ := hide hq
  have EK := hide hk
  have EM := hide hm
  have FW := hf.few hj
  have e8 : m = 0 ∨ m = 1 ∨ m = 2 ∨ m = 3 ∨ m = 4 ∨ 5 ≤ m := by omega
  rcases e8 with rfl | rfl | rfl | rfl | rfl | m5
  · have PC := hide (Played.pay (C := C) (v := v) (by have := V0.out; omega) EM.out)
    unfold Hid at PC
    rw [EO.out, EB.out, EN.out] at PC
    have PD := hide PC
    clear PC hq hm
    go_enter Tryz.func141, Tryz.ntmps141
    go_wp2_with fail
    refine (pch_pay F cb C hC FW g hg o b (1 + n') wo wb A w hL.e h).mono ?_
    rintro e w1 ⟨ev, F1, rfl, hE, h1, M1⟩
    go_wp2_with fail
    go_ret
    exact ⟨_, _, PD.out, _, F1, rfl, hE, h1, M1⟩
  · have PC := hide (Played.stake (C := C) (v := v) (by have := V0.out; omega) EM.out)
    unfold Hid at PC
    rw [EO.out, EB.out, EN.out] at PC
    have PD := hide PC
    clear PC hq hm
    go_enter Tryz.func141, Tryz.ntmps141
    go_wp2_with fail
    refine (pch_stake F cb C hC FW g hg o b (1 + n') wo A w hL.e h).mono ?_
    rintro e w1 ⟨ev, F1, rfl, hE, h1, M1⟩
    go_wp2_with fail
    go_ret
    exact ⟨_, _, PD.out, _, F1, rfl, hE, h1, M1⟩
  · have PC := hide (Played.unstake (C := C) (v := v) (by have := V0.out; omega) EM.out)
    unfold Hid at PC
    rw [EO.out, EB.out, EN.out] at PC
    have PD := hide PC
    clear PC hq hm
    go_enter Tryz.func141, Tryz.ntmps141
    go_wp2_with fail
    refine (pch_unstake F cb C hC FW g hg o b (1 + n') wo A w hL.e h).mono ?_
    rintro e w1 ⟨ev, F1, rfl, hE, h1, M1⟩
    go_wp2_with fail
    go_ret
    exact ⟨_, _, PD.out, _, F1, rfl, hE, h1, M1⟩
  · have PC := hide (Played.free (C := C) (v := v) (by have := V0.out; omega) EM.out)
    unfold Hid at PC
    rw [EO.out] at PC
    have PD := hide PC
    clear PC hq hm
    go_enter Tryz.func141, Tryz.ntmps141
    go_wp2_with fail
    refine (pch_free F cb C hC FW g hg o wo A w hL.e h).mono ?_
    rintro e w1 ⟨ev, F1, rfl, hE, h1, M1⟩
    go_wp2_with fail
    go_ret
    exact ⟨_, _, PD.out, _, F1, rfl, hE, h1, M1⟩
  · obtain ⟨k4, hk4⟩ : ∃ k4, k % 4 = k4 := ⟨_, rfl⟩
    obtain ⟨q72, hq72⟩ : ∃ q72, q / 72 = q72 := ⟨_, rfl⟩
    obtain ⟨e5, he5⟩ : ∃ e5, q72 % 5 = e5 := ⟨_, rfl⟩
    have PC := Played.accuse (C := C) (v := v) (by omega) hm
    have EE : pE C v = (b, (C.cyc : Int) - k4, e5) := by unfold pE; rw [EB.out, EQ.out, EK.out, hk4, hq72, he5]
    rw [EO.out, EE] at PC
    exact (call_accuse F cb C hC FW g hg q o b' b k n' k4 q72 e5 q0 q1 ho hb' hb hk hn' hk4 hq72 he5 A w hL h).mono fun e w' h1 => ⟨_, _, PC, h1⟩
  · obtain ⟨r, hr⟩ : ∃ r, q % 8 = r := ⟨_, rfl⟩
    have r0 : 0 ≤ r := by omega
    have r8 : r < 8 := by omega
    have t0 : (m == 0) = false := by rw [beq_eq_false_iff_ne]; omega
    have t1 : (m == 1) = false := by rw [beq_eq_false_iff_ne]; omega
    have t2 : (m == 2) = false := by rw [beq_eq_false_iff_ne]; omega
    have t3 : (m == 3) = false := by rw [beq_eq_false_iff_ne]; omega
    have t4 : (m == 4) = false := by rw [beq_eq_false_iff_ne]; omega
    have ER : Hid (pR v = r) := by unfold Hid pR; rw [EQ.out]; exact hr
    have M5 := hide m5
    clear hq hm
    go_enter Tryz.func141, Tryz.ntmps141
    go_wp2_with fail
    refine (pl_bake F cb C hC FW g hg r (hf.turn (by omega) r0 r8) A w hL.e h).mono ?_
    rintro e w1 ⟨x, hx, ev, F1, rfl, hE, h1, M1⟩
    have HX := hide hx
    clear hx
    go_wp2_with fail
    go_ret
    exact ⟨0, _, .bake (by have := V0.out; omega) (by rw [EM.out]; exact M5.out) x (by rw [ER.out]; exact HX.out), _, F1, rfl, hE, h1, M1⟩
/-- an answer -/
def PAnsEnd (F : Nat → Prop) (cb g : Nat) (C : Ch) (v : Int) (w : World) (e : Ending) (w' : World) : Prop := ∃ a C' F', e = .returned (.int .i64 a) ∧ Played C v a C' ∧ PCh F' w' cb C' (g + 2000) ∧ Moved F F' w w'
set_option maxRecDepth 100000 in
theorem pl_answer (F : Nat → Prop) (cb : Nat) (C : Ch) (hC : C.Ok) (j : Nat) (hj : j ≤ 400) (hf : C.Fit j) (g : Nat) (hg : g ≤ 850000) (v : Int) (hv : v ≤ 9223372036854775807) (A : Nat → Addr) (w0 : World) (hL : Laid w0 A) (w : World) (m : Mine w0.heap.size w0 w F) (h : PCh F w cb C g) :
    Calls Tryz.prog 84 #[.pointer (some ⟨cb, 0, none⟩), .int .i64 v] w (PAnsEnd F cb g C v w) := by
  by_cases v0 : v < 0
  · go_enter Tryz.func84, Tryz.ntmps84
    go_wp2_with fail
    go_ret
    exact ⟨-1, C, F, rfl, .neg v0, h.more (by omega), Moved.refl _ _⟩
  · obtain ⟨q, hq⟩ : ∃ q, v / 8 = q := ⟨_, rfl⟩
    obtain ⟨r, hr⟩ : ∃ r, v % 8 = r := ⟨_, rfl⟩
    have q0 : 0 ≤ q := by omega
    have q1 : q ≤ 1152921504606846975 := by omega
    have r0 : 0 ≤ r := by omega
    have r8 : r < 8 := by omega
    have v1 : 0 ≤ v := by omega
    have PC := pl_call F cb C hC j hj hf g hg v q r v1 hv hq hr A w (hL.below m.below).chP h
    go_enter Tryz.func84, Tryz.ntmps84
    go_wp2_with fail
    refine PC.mono ?_
    rintro e w1 ⟨a, C1, hp, ev, F1, rfl, hE, h1, M1⟩
    have m1 := m.next M1
    have T := hE.tells (hL.below m1.below) w1 (Below.refl _ _)
    have HP := hide hp
    clear hp PC hE hq hr
    go_wp2_with fail
    refine T.mono ?_
    rintro e w2 ⟨rfl, hB2⟩
    have h2 := h1.below hB2
    have M2 := M1.trans (h1.stays hB2)
    go_wp2_with fail
    go_ret
    exact ⟨a, C1, F1, rfl, HP.out, h2, M2⟩
/-- what a script made of the program's chain -/
def PRunEnd (F : Nat → Prop) (cb g : Nat) (C : Ch) (W : Nat → Int) (n : Nat) (w : World) (e : Ending) (w' : World) : Prop := ∃ v K C' F' g', e = .returned v ∧ RanTo C W n K C' ∧ g' ≤ g + 2000 * n ∧ PCh F' w' cb C' g' ∧ Moved F F' w w' ∧ w'.ownsRow w.heap.size 3 1 v n (kRow K n) ∧ ∀ q, v.ownBlock = some q → ¬ F' q
theorem made_ints (n : Nat) (h : n ≤ 3000) (w : World) : (Instr.makeSlice 31 (.int .i64 (n : Int)) (.int .i64 (n : Int))).run Tryz.prog w = .ok (.slice (some ⟨w.heap.size, 0, none⟩) n n) (w.alloc (.cells (madeCells #[.int .i64 0] n) 3)) :=
  run_make_row' (P := Tryz.prog) 31 3 (.int .i64 0) 8 Tryz.underlying31 Tryz.infoInts rfl .i64 .i64 n (by omega) (by omega) w
/-- so many answers, and noughts behind them -/
def ansTo (K : Nat → Int) (k : Nat) : Nat → Value := fun i => .int .i64 (if i < k then K i else 0)
theorem ans_next (K : Nat → Int) (k : Nat) (x : Int) (j : Nat) : (if j = k then Value.int .i64 x else ansTo K k j) = ansTo (fun i => if i = k then x else K i) (k + 1) j := by
  unfold ansTo
  by_cases e : j = k
  · subst e; simp
  · rw [if_neg e]
    by_cases l : j < k
    · rw [if_pos l, if_pos (by omega)]
      exact congrArg (Value.int .i64) (if_neg e).symm
    · rw [if_neg l, if_neg (by omega)]
theorem ans_owns {w : World} {b n : Nat} {K : Nat → Int} (hn : n ≤ 3000) (h : w.rowIs b 3 n (ansTo K n)) : w.ownsRow b 3 1 (.slice (some ⟨b, 0, none⟩) n n) n (kRow K n) := by
  obtain ⟨c, hb, hs, hc⟩ := h
  refine ⟨by rw [kRow_len]; omega, .inr ⟨b, n, c, rfl, Nat.le_refl _, hb, Nat.le_refl _, by simp only [maxLen]; omega, by omega, ?_⟩⟩
  apply List.ext_getElem?
  intro i
  rw [Nat.mul_one]
  by_cases l : i < n
  · rw [List.getElem?_take_of_lt l, Array.getElem?_toList, hc i l, kRow_at K n i l]
    unfold ansTo
    rw [if_pos l]
  · rw [List.getElem?_eq_none (by simp; omega), List.getElem?_eq_none (by rw [kRow_len]; omega)]
set_option maxRecDepth 100000 in
set_option maxHeartbeats 2000000 in
theorem pl_run (F : Nat → Prop) (cb : Nat) (C : Ch) (hC : C.Ok) (j : Nat) (hf : C.Fit j) (n : Nat) (hn : j + n ≤ 400) (g : Nat) (hg : g + 2000 * n ≤ 850000) (v : Value) (W : Nat → Int) (A : Nat → Addr) (w0 : World) (hL : Laid w0 A) (w : World) (m : Mine w0.heap.size w0 w F) (h : PCh F w cb C g) (hS : Script w F v n W) :
    Calls Tryz.prog 31 #[.pointer (some ⟨cb, 0, none⟩), v] w (PRunEnd F cb g C W n w) := by
  obtain ⟨a, cap, rfl, hcap, hS⟩ := hS
  have n3 : (n : Int) < 3000 := by omega
  have mn : min (n : Int) 3000 = n := by omega
  have mk := made_ints n (by omega) w
  have hB0 : Below w.heap.size w (w.alloc (.cells (madeCells #[.int .i64 0] n) 3)) := (Below.refl _ _).alloc (Nat.le_refl _) _
  have R0 := World.rowIs_made w (.int .i64 0) n 3
  have nF : ¬ F w.heap.size := fun z => by have := h.lt _ z; omega
  go_enter Tryz.func31, Tryz.ntmps31
  go_wp2_with fail
  go_loopw [18] (fun i wr => ∃ (k : Nat) (K : Nat → Int) (D : Ch) (F' : Nat → Prop), k ≤ n ∧ i = .int .i64 k ∧ RanTo C W k K D ∧ PCh F' wr cb D (g + 2000 * k) ∧ Moved F F' w wr ∧ wr.rowIs w.heap.size 3 n (ansTo K k) ∧ ¬ F' w.heap.size) (fun i _ => n - (intOf i).toNat)
  case atStart => exact ⟨0, fun _ => 0, C, F, Nat.zero_le _, rfl, rfl, h.below hB0, h.stays hB0, R0.congr fun i _ => rfl, nF⟩
  case round =>
    obtain ⟨k, K, D, F', hk, rfl, hran, hD, hM, R, nF'⟩ := hrel
    obtain ⟨hDo, hDf⟩ := RanTo.ok hC hf k hran
    clear mn mk hB0 R0
    by_cases hlt : k < n
    · obtain ⟨b, off, rfl, hb, nb, cw, wv⟩ := hS k hlt
      have c0 : wr.cell? ⟨b, off + k, none⟩ = some (.int .i64 (W k)) := hM.cell cw nb
      have HR := hide hran
      have mr := m.next hM
      have AN := pl_answer F' cb D hDo (j + k) (by omega) hDf (g + 2000 * k) (by omega) (W k) wv A w0 hL wr mr hD
      clear hS cw hran
      go_wp2_with fail
      refine AN.mono ?_
      rintro e w1 ⟨x, D1, F1, rfl, hp, h1, M1⟩
      have R1 := R.of_block (M1.kept.block _ R.lt nF')
      have nF1 : ¬ F1 w.heap.size := fun z => nF' (M1.old _ R.lt z)
      have c1 := R1.cell hlt
      have f1 := R1.frozen k
      have HN : Hid (RanTo C W (k + 1) (fun i => if i = k then x else K i) D1) := ⟨D, RanTo.congr k (fun _ _ => rfl) (fun i hi => (if_neg (by omega)).symm) HR.out, by show Played D (W k) (if k = k then x else K k) D1; rw [if_pos rfl]; exact hp⟩
      have MM := hM.trans M1
      have R2 := (R1.set k (.int .i64 x)).congr fun i _ => ans_next K k x i
      have K2 : KeptP (fun q => q = w.heap.size) w1 (w1.setCell ⟨w.heap.size, k, none⟩ (.int .i64 x)) := (KeptP.refl (fun q => q = w.heap.size) w1).setCell (p := ⟨w.heap.size, k, none⟩) rfl _
      have h2 : PCh F1 (w1.setCell ⟨w.heap.size, k, none⟩ (.int .i64 x)) cb D1 (g + 2000 * (k + 1)) := (h1.keptP K2 fun q e z => nF1 (by rw [← e]; exact z)).more (by omega)
      have M2 : Moved F F1 w (w1.setCell ⟨w.heap.size, k, none⟩ (.int .i64 x)) := ⟨MM.kept.trans K2 fun i hi e => by omega, MM.old⟩
      clear hp R hD hM M1 c0 HR hDo hDf AN h1 R1 MM K2 mr
      go_wp2_with fail
      go_roundw
      case rel => exact ⟨k + 1, _, D1, F1, by omega, by go_num, HN.out, h2, M2, R2, nF1⟩
      case measure => simp [intOf]; omega
    · obtain rfl : k = n := by omega
      have OW := ans_owns (by omega) R
      clear hS R
      go_wp2_with fail
      go_ret
      exact ⟨_, K, D, F', _, rfl, hran, Nat.le_refl _, hD, hM, OW, fun q e z => by
        have e' : some w.heap.size = some q := e
        cases e'
        exact nF' z⟩
/-- what the first so many may spend -/
def spendTo (p : Pu) : Nat → Int
  | 0 => 0
  | k + 1 => spendTo p k + p.s k
theorem spendTo_six (p : Pu) : spendTo p 6 = p.sum := by simp [spendTo, Pu.sum]
theorem spendTo_pos {p : Pu} (h : p.Ok) : ∀ k, 0 ≤ spendTo p k
  | 0 => Int.le_refl _
  | k + 1 => Int.add_nonneg (spendTo_pos h k) (h.pos _)
theorem spendTo_le {p : Pu} (h : p.Ok) (k : Nat) (hk : k ≤ 6) : spendTo p k ≤ p.sum := by
  have e := spendTo_six p
  have m : ∀ j, spendTo p j ≤ spendTo p (j + 1) := fun j => by have := h.pos (j : Int); simp only [spendTo]; omega
  have := m 0
  have := m 1
  have := m 2
  have := m 3
  have := m 4
  have := m 5
  have c : k = 0 ∨ k = 1 ∨ k = 2 ∨ k = 3 ∨ k = 4 ∨ k = 5 ∨ k = 6 := by omega
  simp only [Nat.reduceAdd, Nat.zero_add] at *
  rcases c with rfl | rfl | rfl | rfl | rfl | rfl | rfl <;> omega
/-- sums as they lie -/
def sumsRow (a b c : Int) : Nat → Value
  | 0 => .int .i64 a
  | 1 => .int .i64 b
  | _ => .int .i64 c
theorem sumsRow_at (a b c : Int) (i : Nat) (h : i < 3) : (#[Value.int .i64 a, Value.int .i64 b, Value.int .i64 c] : Array Value)[i]? = some (sumsRow a b c i) := by
  have : i = 0 ∨ i = 1 ∨ i = 2 := by omega
  rcases this with rfl | rfl | rfl <;> rfl
theorem sumsRow_set (a a' b c : Int) (i : Nat) : (if i = 0 then Value.int .i64 a' else sumsRow a b c i) = sumsRow a' b c i := by
  cases i with
  | zero => rfl
  | succ i => cases i <;> rfl
set_option maxRecDepth 100000 in
set_option maxHeartbeats 2000000 in
theorem pl_add (F : Nat → Prop) (cb : Nat) (C : Ch) (hC : C.Ok) (hk : C.s.K.length ≤ 900) (g : Nat) (w : World) (h : PCh F w cb C g) :
    Calls Tryz.prog 33 #[.pointer (some ⟨cb, 0, none⟩)] w fun e w' => e = .returned (.agg #[.int .i64 C.p.sum, .int .i64 C.s.total, .int .i64 C.p.S]) ∧ Below w.heap.size w w' := by
  have hB0 : Below w.heap.size w (w.alloc (.cells #[.int .i64 0, .int .i64 0, .int .i64 0] 53)) := (Below.refl _ _).alloc (Nat.le_refl _) _
  have h0 := h.below hB0
  have s0 : (w.alloc (.cells #[.int .i64 0, .int .i64 0, .int .i64 0] 53)).heap.size = w.heap.size + 1 := by simp
  have R0 : (w.alloc (.cells #[.int .i64 0, .int .i64 0, .int .i64 0] 53)).heap[w.heap.size]? = some (.cells #[.int .i64 0, .int .i64 0, .int .i64 0] 53 (0, 0)) := heap_alloc_new _ _
  have HL := hide hC
  clear h
  go_enter Tryz.func33, Tryz.ntmps33
  go_wp2_with fail
  generalize w.alloc (.cells #[.int .i64 0, .int .i64 0, .int .i64 0] 53) = w1 at *
  refine (pch_stakes F cb C g w1 h0).mono ?_
  rintro e w2 ⟨sb, Fs, rfl, hs, _, hB2⟩
  go_wp2_with fail
  refine (ps_total Fs sb C.s HL.out.s hk g w2 hs).mono ?_
  rintro e w3 ⟨rfl, hB3⟩
  have B3 := hB2.trans (hB3.mono hB2.size)
  have h3 := h0.below B3
  clear hs hB2 hB3
  go_wp2_with fail
  refine (pch_supply F cb C g w3 h3).mono ?_
  rintro e w4 ⟨rfl, hB4⟩
  have B4 := B3.trans (hB4.mono B3.size)
  have h4 := h0.below B4
  have BB := hB0.trans (B4.mono hB0.size)
  have R4 : w4.heap[w.heap.size]? = some (.cells #[.int .i64 0, .int .i64 0, .int .i64 0] 53 (0, 0)) := (B4.block w.heap.size (by omega)).trans R0
  have l4 : w.heap.size < w4.heap.size := by have := B4.size; omega
  have Q0 : (w4.alloc (.cells #[.int .i64 0, .int .i64 C.s.total, .int .i64 C.p.S] 53)).rowIs w4.heap.size 53 3 (sumsRow 0 C.s.total C.p.S) := World.rowIs_alloc w4 #[.int .i64 0, .int .i64 C.s.total, .int .i64 C.p.S] 53 _ (sumsRow_at 0 C.s.total C.p.S)
  have Z0 : (w4.alloc (.cells #[.int .i64 0, .int .i64 C.s.total, .int .i64 C.p.S] 53)).rowIs w.heap.size 53 3 (sumsRow 0 0 0) := World.rowIs.alloc ⟨_, R4, rfl, fun i hi => sumsRow_at 0 0 0 i hi⟩ _
  have hB5 : Below w4.heap.size w4 (w4.alloc (.cells #[.int .i64 0, .int .i64 C.s.total, .int .i64 C.p.S] 53)) := (Below.refl _ _).alloc (Nat.le_refl _) _
  have h5 := h4.below hB5
  have n4 : ¬ F w4.heap.size := fun z => by have := h4.lt _ z; omega
  have B5 := BB.trans (hB5.mono BB.size)
  have T6 := hide (spendTo_six C.p)
  clear B3 B4 h3 hB4 hB0 h0 R0 R4 h4 hB5
  go_wp2_with fail
  go_loopw [11] (fun i wr => ∃ k : Nat, k ≤ 6 ∧ i = .int .i64 k ∧ PCh F wr cb C g ∧ Below w.heap.size w wr ∧ wr.rowIs w4.heap.size 53 3 (sumsRow (spendTo C.p k) C.s.total C.p.S) ∧ wr.rowIs w.heap.size 53 3 (sumsRow 0 0 0)) (fun i _ => 6 - (intOf i).toNat)
  case atStart => exact ⟨0, Nat.zero_le _, rfl, h5, B5, Q0, Z0⟩
  case round =>
    obtain ⟨k, hk6, rfl, hr, Br, Q, Z⟩ := hrel
    clear Q0 Z0 h5 B5
    by_cases hlt : k < 6
    · have c0 : wr.cell? ⟨w4.heap.size, 0, none⟩ = some (.int .i64 (spendTo C.p k)) := Q.cell (by omega)
      have f0 := Q.frozen 0
      have y0 := spendTo_pos HL.out.p k
      have y1 := HL.out.p.pos (k : Int)
      have y2 : spendTo C.p k + C.p.s k ≤ 1125899906842624 := Int.le_trans (spendTo_le HL.out.p (k + 1) (by omega)) (Int.le_trans HL.out.p.le HL.out.p.top)
      have HQ := hide Q
      have HZ := hide Z
      clear Q Z
      go_wp2_with fail
      go_region_with (go_at_call 22; refine (pch_has F cb C HL.out g (k : Int) _ (by first | exact hr | exact hr.below (below_drewN (Below.refl _ _) 1))).mono ?_; rintro e w6 ⟨rfl, hB6⟩; have B6 : Below wr.heap.size wr w6 := (by first | exact hB6 | exact drew_below hB6); have h6 := hr.below B6; have Q6 := HQ.out.of_block (B6.block _ HQ.out.lt); have Z6 := HZ.out.of_block (B6.block _ HZ.out.lt); have c6 : w6.cell? ⟨w4.heap.size, 0, none⟩ = some (.int .i64 (spendTo C.p k)) := Q6.cell (by omega); have f6 := Q6.frozen 0)
      all_goals
        go_wp2_with fail
        go_roundw
        case rel =>
          exact ⟨k + 1, by omega, by go_num, h6.keptP ((KeptP.refl (fun q => q = w4.heap.size) w6).setCell rfl _) (fun q e z => n4 (by rw [← e]; exact z)), (Br.trans (B6.mono Br.size)).setCell (Nat.le_of_lt l4) _, (Q6.set 0 _).congr (fun i _ => sumsRow_set _ _ _ _ i), Z6.setOther (Nat.ne_of_lt l4) _⟩
        case measure => simp [intOf]; omega
    · obtain rfl : k = 6 := by omega
      have c0 : wr.cell? ⟨w4.heap.size, 0, none⟩ = some (.int .i64 (spendTo C.p 6)) := Q.cell (by omega)
      have c1 : wr.cell? ⟨w4.heap.size, 1, none⟩ = some (.int .i64 C.s.total) := Q.cell (by omega)
      have c2 : wr.cell? ⟨w4.heap.size, 2, none⟩ = some (.int .i64 C.p.S) := Q.cell (by omega)
      have z0 : wr.cell? ⟨w.heap.size, 0, none⟩ = some (.int .i64 0) := Z.cell (by omega)
      have z1 : wr.cell? ⟨w.heap.size, 1, none⟩ = some (.int .i64 0) := Z.cell (by omega)
      have z2 : wr.cell? ⟨w.heap.size, 2, none⟩ = some (.int .i64 0) := Z.cell (by omega)
      have e0 := Z.frozen 0
      have e1 := Z.frozen 1
      have e2 := Z.frozen 2
      have Y := ((Z.set 0 (.int .i64 (spendTo C.p 6))).set 1 (.int .i64 C.s.total)).set 2 (.int .i64 C.p.S)
      have x0 : (((wr.setCell ⟨w.heap.size, 0, none⟩ (.int .i64 (spendTo C.p 6))).setCell ⟨w.heap.size, 1, none⟩ (.int .i64 C.s.total)).setCell ⟨w.heap.size, 2, none⟩ (.int .i64 C.p.S)).cell? ⟨w.heap.size, 0, none⟩ = some (.int .i64 (spendTo C.p 6)) := Y.cell (i := 0) (by omega)
      have x1 : (((wr.setCell ⟨w.heap.size, 0, none⟩ (.int .i64 (spendTo C.p 6))).setCell ⟨w.heap.size, 1, none⟩ (.int .i64 C.s.total)).setCell ⟨w.heap.size, 2, none⟩ (.int .i64 C.p.S)).cell? ⟨w.heap.size, 1, none⟩ = some (.int .i64 C.s.total) := Y.cell (i := 1) (by omega)
      have x2 : (((wr.setCell ⟨w.heap.size, 0, none⟩ (.int .i64 (spendTo C.p 6))).setCell ⟨w.heap.size, 1, none⟩ (.int .i64 C.s.total)).setCell ⟨w.heap.size, 2, none⟩ (.int .i64 C.p.S)).cell? ⟨w.heap.size, 2, none⟩ = some (.int .i64 C.p.S) := Y.cell (i := 2) (by omega)
      clear Q Z Y
      go_wp2_with fail
      refine bodyPost_ret (v := .agg #[.int .i64 (spendTo C.p 6), .int .i64 C.s.total, .int .i64 C.p.S]) (by simp [results, Tryz.results33, go_sem, x0, x1, x2]) rfl ⟨by rw [T6.out], ((Br.setCell (p := ⟨w.heap.size, 0, none⟩) (Nat.le_refl _) _).setCell (p := ⟨w.heap.size, 1, none⟩) (Nat.le_refl _) _).setCell (p := ⟨w.heap.size, 2, none⟩) (Nat.le_refl _) _⟩
end Go.Proofs.YtaihcceobnfmhaaGreatDoor
