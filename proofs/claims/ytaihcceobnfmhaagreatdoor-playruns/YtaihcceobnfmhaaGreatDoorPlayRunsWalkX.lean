/-
  Plays of the document's chain (bakehouseref2: BakeTurn, One), by their contracts.
  A script of the document's chain (bakehouseref2.Chain.Run), by its contract.
  The law PlayRuns of package bakehouselaw3, walked: for every seed and every script it returns true.
-/
import Derived.Test.YtaihcceobnfmhaaGreatDoorCoded2X
import Derived.Test.YtaihcceobnfmhaaGreatDoorPlayRowX
import Derived.Deep.RegionHeld3
import Derived.Test.YtaihcceobnfmhaaGreatDoorPlayedOf
import Derived.Test.YtaihcceobnfmhaaGreatDoorChainAsX
import Derived.Test.YtaihcceobnfmhaaGreatDoorRefChNew
namespace Go.Proofs.YtaihcceobnfmhaaGreatDoor
open Go.RowKit

set_option maxRecDepth 100000 in
set_option maxHeartbeats 1000000 in
theorem rch_bakeTurn (F : Nat → Prop) (cb : Nat) (C : Ch) (hC : C.Ok) (i : Nat) (hi : i ≤ 400) (hf : C.Fit i) (r : Int) (hr : TurnOk C.cyc C.lev r) (w : World) (h : RCh F w cb C) :
    Calls Tryz.prog 142 #[.pointer (some ⟨cb, 0, none⟩), .int .i64 r] w fun e w' => ∃ k, e = .returned (.tuple #[.int .i64 k, .int .i64 (C.bakeN k), .int .i64 0]) ∧ Turn 3 C.pic C.seed C.cyc C.lev r k ∧ ∃ F', RCh F' w' cb (C.bake k) ∧ Moved F F' w w' := by
  go_enter Tryz.func142, Tryz.ntmps142
  go_wp2_with fail
  refine (rch_turn F cb C hC r hr w h).mono ?_
  rintro e w1 ⟨k, rfl, hk, hB1⟩
  have hB2 : Below w1.heap.size w1 (w1.alloc (.cells #[.int .i64 0, .int .i64 (-1)] 114)) := (Below.refl _ _).alloc (Nat.le_refl _) _
  have h2 := (h.nextB hB1).nextB hB2
  have M2 : Moved F F w (w1.alloc (.cells #[.int .i64 0, .int .i64 (-1)] 114)) := ⟨KeptP.of_below (hB1.trans (hB2.mono hB1.size)), fun _ _ g => g⟩
  have HK := hide hk
  clear hk hB1 hB2 h
  go_wp2_with fail
  refine (rch_bake_fine F cb C hC i hi hf k r hr _ h2 (fun k' h' => h'.one HK.out)).mono ?_
  rintro e w3 ⟨rfl, F3, h3, M3⟩
  have M4 := M2.trans M3
  clear h2 M2 M3
  go_wp2_with fail
  go_ret3
  exact ⟨k, rfl, HK.out, F3, h3, M4⟩
set_option maxRecDepth 100000 in
set_option maxHeartbeats 2000000 in
theorem one_accuse (F : Nat → Prop) (cb : Nat) (C : Ch) (hC : C.Ok) (i : Nat) (hi : i ≤ 400) (hf : C.Fit i) (v q o b' b k n' k4 q72 e5 : Int) (v0 : 0 ≤ v) (hv : v ≤ 9223372036854775807) (hq : v / 8 = q) (hm : v % 8 = 4) (ho : q % 6 = o) (hb' : q / 6 = b') (hb : b' % 3 = b) (hk : q / 18 = k) (hn' : k % 2000 = n') (hk4 : k % 4 = k4) (hq72 : q / 72 = q72) (he5 : q72 % 5 = e5) (w : World) (h : RCh F w cb C) :
    Calls Tryz.prog 85 #[.pointer (some ⟨cb, 0, none⟩), .int .i64 v] w fun e w' => e = .returned (.int .i64 (C.c.accC o (b, (C.cyc : Int) - k4, e5) C.cyc)) ∧ ∃ F', RCh F' w' cb (C.accuse o (b, (C.cyc : Int) - k4, e5)) ∧ Moved F F' w w' := by
  have q0 : 0 ≤ q := by omega
  have q1 : q ≤ 1152921504606846975 := by omega
  have o0 : 0 ≤ o := by omega
  have o6 : o < 6 := by omega
  have b0' : 0 ≤ b' := by omega
  have b1' : b' ≤ 1152921504606846975 := by omega
  have b0 : 0 ≤ b := by omega
  have b3 : b < 3 := by omega
  have k0 : 0 ≤ k := by omega
  have k1 : k ≤ 1152921504606846975 := by omega
  have n0 : 0 ≤ n' := by omega
  have n1 : n' < 2000 := by omega
  have x0 : 0 ≤ k4 := by omega
  have x4 : k4 < 4 := by omega
  have y0 : 0 ≤ q72 := by omega
  have y1 : q72 ≤ 1152921504606846975 := by omega
  have z0 : 0 ≤ e5 := by omega
  have z5 : e5 < 5 := by omega
  obtain ⟨y, hy⟩ : ∃ y : Int, (C.cyc : Int) = y := ⟨_, rfl⟩
  have y2 : 0 ≤ y := by omega
  have y3 : y ≤ 400 := by have := hf.y; have := hf.v; omega
  obtain ⟨d, hd⟩ : ∃ d : Int, y - k4 = d := ⟨_, rfl⟩
  have d0 : -4 ≤ d := by omega
  have d1 : d ≤ 400 := by omega
  obtain ⟨pb, sb, kb, hR⟩ := h.parts
  have c2 := hR.c2
  have c4 := hR.c4
  have ACC := hide (fun w' (g : RChB F w' cb pb sb kb C) => rchb_accuse F cb pb sb kb C hC (by have := hf.l; omega) o b d e5 w' g)
  rw [hy, hd]
  rw [hy] at c4
  unfold Hid at ACC
  rw [hy] at ACC
  have AC := hide ACC
  have r1 : IntKind.i64.wrap (y - k.tmod 4) = d := by rw [Int.tmod_eq_emod_of_nonneg k0, hk4, hd]; exact wrap_end d (by omega) (by omega)
  have r2 : (IntKind.i64.wrap (q.tdiv 72)).tmod 5 = e5 := by rw [Int.tdiv_eq_ediv_of_nonneg q0, hq72, wrap_end q72 (by omega) (by omega), Int.tmod_eq_emod_of_nonneg y0, he5]
  clear ACC h hf hC
  go_enter Tryz.func85, Tryz.ntmps85
  go_wp2_with fail
  go_region_held3 (fun w' => w'.cell? ⟨cb, 2, none⟩ = some (.pointer (some ⟨kb, 0, none⟩)) ∧ w'.cell? ⟨cb, 4, none⟩ = some (.int .i64 y)) (exact ⟨by assumption, by assumption⟩)
    (first | (go_simp; go_at_call 76; refine (AC.out _ (by first | exact hR | exact hR.drewN _)).mono ?_; rintro e w1 ⟨rfl, F1, h1, M1⟩; have e2 := h1.c2; have e4 : w1.cell? ⟨cb, 4, none⟩ = some (.int .i64 y) := (by rw [← hy]; exact h1.c4); have M2 : Moved F F1 w w1 := (by first | exact M1 | exact ((Moved.refl F w).drewN _).trans M1)))
  go_wp2_with fail
  go_ret
  exact ⟨rfl, F1, h1.whole, M2⟩
/-- what a number of a play made -/
def OneEnd (F : Nat → Prop) (cb : Nat) (C : Ch) (v : Int) (w : World) (e : Ending) (w' : World) : Prop := ∃ a C' F', e = .returned (.int .i64 a) ∧ Played C v a C' ∧ RCh F' w' cb C' ∧ Moved F F' w w'
set_option maxRecDepth 100000 in
set_option maxHeartbeats 2000000 in
theorem rch_one (F : Nat → Prop) (cb : Nat) (C : Ch) (hC : C.Ok) (i : Nat) (hi : i ≤ 400) (hf : C.Fit i) (v : Int) (hv : v ≤ 9223372036854775807) (w : World) (h : RCh F w cb C) :
    Calls Tryz.prog 85 #[.pointer (some ⟨cb, 0, none⟩), .int .i64 v] w (OneEnd F cb C v w) := by
  by_cases v0 : v < 0
  · go_enter Tryz.func85, Tryz.ntmps85
    go_wp2_with fail
    go_ret
    exact ⟨-1, C, F, rfl, .neg v0, h, Moved.refl _ _⟩
  · have V0 := hide v0
    obtain ⟨q, hq⟩ : ∃ q, v / 8 = q := ⟨_, rfl⟩
    obtain ⟨m, hm⟩ : ∃ m, v % 8 = m := ⟨_, rfl⟩
    obtain ⟨o, ho⟩ : ∃ o, q % 6 = o := ⟨_, rfl⟩
    obtain ⟨b', hb'⟩ : ∃ b', q / 6 = b' := ⟨_, rfl⟩
    obtain ⟨b, hb⟩ : ∃ b, b' % 3 = b := ⟨_, rfl⟩
    obtain ⟨k, hk⟩ : ∃ k, q / 18 = k := ⟨_, rfl⟩
    obtain ⟨n', hn'⟩ : ∃ n', k % 2000 = n' := ⟨_, rfl⟩
    have q0 : 0 ≤ q := by omega
    have q1 : q ≤ 1152921504606846975 := by omega
    have m0 : 0 ≤ m := by omega
    have m8 : m < 8 := by omega
    have o0 : 0 ≤ o := by omega
    have o6 : o < 6 := by omega
    have b0' : 0 ≤ b' := by omega
    have b1' : b' ≤ 1152921504606846975 := by omega
    have b0 : 0 ≤ b := by omega
    have b3 : b < 3 := by omega
    have k0 : 0 ≤ k := by omega
    have k1 : k ≤ 1152921504606846975 := by omega
    have n0 : 0 ≤ n' := by omega
    have n1 : n' < 2000 := by omega
    have EO : Hid (pO v = o) := by unfold Hid pO; rw [hq]; exact ho
    have EB : Hid (pB v = b) := by unfold Hid pB; rw [hq, hb']; exact hb
    have EN : Hid (pN v = n' + 1) := by unfold Hid pN; rw [hq, hk, hn']
    have EQ := hide hq
    have EK := hide hk
    have EM := hide hm
    have e8 : m = 0 ∨ m = 1 ∨ m = 2 ∨ m = 3 ∨ m = 4 ∨ 5 ≤ m := by omega
    rcases e8 with rfl | rfl | rfl | rfl | rfl | m5
    · obtain ⟨pb, sb, kb, hR⟩ := h.parts
      have c0 := hR.c0
      go_enter Tryz.func85, Tryz.ntmps85
      go_wp2_with fail
      refine (rchb_move F cb pb sb kb C hC o b (n' + 1) w hR).mono ?_
      rintro e w1 ⟨rfl, h1, M1⟩
      go_wp2_with fail
      go_ret
      exact ⟨_, _, F, rfl, by rw [← EO.out, ← EB.out, ← EN.out]; exact .pay (by have := V0.out; omega) EM.out, by rw [EO.out, EB.out, EN.out]; exact h1.whole, M1⟩
    · have PC := hide (Played.stake (C := C) (v := v) (by have := V0.out; omega) EM.out)
      unfold Hid at PC
      rw [EO.out, EB.out, EN.out] at PC
      have PD := hide PC
      clear PC
      go_enter Tryz.func85, Tryz.ntmps85
      go_wp2_with fail
      refine (rch_stake F cb C hC o b (n' + 1) w h).mono ?_
      rintro e w1 ⟨rfl, F1, h1, M1⟩
      go_wp2_with fail
      go_ret
      exact ⟨_, _, F1, rfl, PD.out, h1, M1⟩
    · have PC := hide (Played.unstake (C := C) (v := v) (by have := V0.out; omega) EM.out)
      unfold Hid at PC
      rw [EO.out, EB.out, EN.out] at PC
      have PD := hide PC
      clear PC
      obtain ⟨pb, sb, kb, hR⟩ := h.parts
      have c1 := hR.c1
      have c4 := hR.c4
      go_enter Tryz.func85, Tryz.ntmps85
      go_wp2_with fail
      go_region_held3 (fun w' => w'.cell? ⟨cb, 1, none⟩ = some (.pointer (some ⟨sb, 0, none⟩)) ∧ w'.cell? ⟨cb, 4, none⟩ = some (.int .i64 C.cyc)) (exact ⟨by assumption, by assumption⟩)
        (first | (go_at_call 74; refine (rchb_leave F cb pb sb kb C hC (by have := hf.k; omega) o b (n' + 1) _ (by first | exact hR | exact hR.drewN _)).mono ?_; rintro e w1 ⟨rfl, F1, h1, M1⟩; have d1 := h1.c1; have d4 : w1.cell? ⟨cb, 4, none⟩ = some (.int .i64 C.cyc) := h1.c4; have M2 : Moved F F1 w w1 := (by first | exact M1 | exact ((Moved.refl F w).drewN _).trans M1)))
      go_wp2_with fail
      go_ret
      exact ⟨_, _, F1, rfl, PD.out, h1.whole, M2⟩
    · have PC := hide (Played.free (C := C) (v := v) (by have := V0.out; omega) EM.out)
      unfold Hid at PC
      rw [EO.out] at PC
      have PD := hide PC
      clear PC
      go_enter Tryz.func85, Tryz.ntmps85
      go_wp2_with fail
      refine (rch_free F cb C hC (by have := hf.k; omega) (by have := hf.y; have := hf.v; omega) o w h).mono ?_
      rintro e w1 ⟨rfl, F1, h1, M1⟩
      go_wp2_with fail
      go_ret
      exact ⟨_, _, F1, rfl, PD.out, h1, M1⟩
    · obtain ⟨k4, hk4⟩ : ∃ k4, k % 4 = k4 := ⟨_, rfl⟩
      obtain ⟨q72, hq72⟩ : ∃ q72, q / 72 = q72 := ⟨_, rfl⟩
      obtain ⟨e5, he5⟩ : ∃ e5, q72 % 5 = e5 := ⟨_, rfl⟩
      have PC := Played.accuse (C := C) (v := v) (by omega) hm
      have EE : pE C v = (b, (C.cyc : Int) - k4, e5) := by unfold pE; rw [EB.out, EQ.out, EK.out, hk4, hq72, he5]
      rw [EO.out, EE] at PC
      exact (one_accuse F cb C hC i hi hf v q o b' b k n' k4 q72 e5 (by omega) hv hq hm ho hb' hb hk hn' hk4 hq72 he5 w h).mono fun e w' ⟨h1, F1, h2, h3⟩ => ⟨_, _, F1, h1, PC, h2, h3⟩
    · obtain ⟨r, hr⟩ : ∃ r, q % 8 = r := ⟨_, rfl⟩
      have r0 : 0 ≤ r := by omega
      have r8 : r < 8 := by omega
      have t0 : (m == 0) = false := by rw [beq_eq_false_iff_ne]; omega
      have t1 : (m == 1) = false := by rw [beq_eq_false_iff_ne]; omega
      have t2 : (m == 2) = false := by rw [beq_eq_false_iff_ne]; omega
      have t3 : (m == 3) = false := by rw [beq_eq_false_iff_ne]; omega
      have t4 : (m == 4) = false := by rw [beq_eq_false_iff_ne]; omega
      have ER : Hid (pR v = r) := by unfold Hid pR; rw [EQ.out]; exact hr
      have M5 := hide m5
      go_enter Tryz.func85, Tryz.ntmps85
      go_wp2_with fail
      refine (rch_bakeTurn F cb C hC i hi hf r (hf.turn (by omega) r0 r8) w h).mono ?_
      rintro e w1 ⟨x, rfl, hx, F1, h1, M1⟩
      have HX := hide hx
      clear hx
      go_wp2_with fail
      go_ret
      exact ⟨0, _, F1, rfl, .bake (by have := V0.out; omega) (by rw [EM.out]; exact M5.out) x (by rw [ER.out]; exact HX.out), h1, M1⟩
end Go.Proofs.YtaihcceobnfmhaaGreatDoor

namespace Go.Proofs.YtaihcceobnfmhaaGreatDoor
open Go.RowKit

/-- what a script made -/
def RunEnd (F : Nat → Prop) (cb : Nat) (C : Ch) (W : Nat → Int) (n : Nat) (w : World) (e : Ending) (w' : World) : Prop := ∃ v K C' F', e = .returned v ∧ RanTo C W n K C' ∧ RCh F' w' cb C' ∧ Moved F F' w w' ∧ RowV w' v n K ∧ (∀ q, v.ownBlock = some q → w.heap.size ≤ q ∧ ¬ F' q)
set_option maxRecDepth 100000 in
set_option maxHeartbeats 4000000 in
theorem rch_run (F : Nat → Prop) (cb : Nat) (C : Ch) (hC : C.Ok) (j : Nat) (hf : C.Fit j) (a : Option Addr) (n cap : Nat) (hn : j + n ≤ 400) (W : Nat → Int) (w : World) (h : RCh F w cb C) (hA : ∀ i, i < n → ∃ b off, a = some ⟨b, off, none⟩ ∧ b < w.heap.size ∧ ¬ F b ∧ w.cell? ⟨b, off + i, none⟩ = some (.int .i64 (W i)) ∧ W i ≤ 9223372036854775807) :
    Calls Tryz.prog 35 #[.pointer (some ⟨cb, 0, none⟩), .slice a n cap] w (RunEnd F cb C W n w) := by
  go_enter Tryz.func35, Tryz.ntmps35
  go_wp2_with fail
  go_loopw [5, 6] (fun v i wr => ∃ (k : Nat) (K : Nat → Int) (D : Ch) (F' : Nat → Prop), k ≤ n ∧ i = .int .i64 k ∧ RanTo C W k K D ∧ RCh F' wr cb D ∧ Moved F F' w wr ∧ wr.ownsRow w.heap.size 3 1 v k (kRow K k) ∧ ∀ q, v.ownBlock = some q → ¬ F' q) (fun _ i _ => n - (intOf i).toNat)
  case atStart => exact ⟨0, fun _ => 0, C, F, Nat.zero_le _, rfl, rfl, h, Moved.refl _ _, World.ownsRow_nil _ _ _ _, fun q e => by cases e⟩
  case round =>
    obtain ⟨k, K, D, F', hk, rfl, hran, hD, hM, own, hq⟩ := hrel
    obtain ⟨hDo, hDf⟩ := RanTo.ok hC hf k hran
    by_cases hlt : k < n
    · obtain ⟨b, off, rfl, hb, nb, cw, wv⟩ := hA k hlt
      have c0 : wr.cell? ⟨b, off + k, none⟩ = some (.int .i64 (W k)) := hM.cell cw nb
      have k3 : (k : Int) < 3000 := by omega
      obtain ⟨aR, cR, rfl⟩ := row_shape3 own
      have HR := hide hran
      clear hA cw hran
      go_wp2_with fail
      refine (rch_one F' cb D hDo (j + k) (by omega) hDf (W k) wv wr hD).mono ?_
      rintro e w1 ⟨x, D1, F1, rfl, hp, h1, M1⟩
      have own1 := ownsRow_keptP own M1.kept hq
      have q1 : ∀ q, (Value.slice aR k cR).ownBlock = some q → ¬ F1 q := fun q e g => hq q e (M1.old q (own.lt q e).2 g)
      have MM := hM.trans M1
      have HN : Hid (RanTo C W (k + 1) (fun i => if i = k then x else K i) D1) := ⟨D, RanTo.congr k (fun _ _ => rfl) (fun i hi => (if_neg (by omega)).symm) HR.out, by show Played D (W k) (if k = k then x else K k) D1; rw [if_pos rfl]; exact hp⟩
      have sz := MM.kept.size
      obtain ⟨i0, hi, hz0, hz1, hz2⟩ := info_parts Tryz.infoIntR
      have N6 : ∀ j u, [Value.int .i64 x][j]? = some u → (w1.alloc (.cells #[.int .i64 x] 3)).cell? ((⟨w1.heap.size, 0, none⟩ : Addr).add j) = some u := World.news_of_block (heap_alloc_new w1 _)
      have ow : (w1.alloc (.cells #[.int .i64 x] 3)).ownsRow w.heap.size 3 1 (.slice aR k cR) k (kRow K k) := own1.alloc _
      have one : ∀ u ∈ [Value.int .i64 x], u.oneCell' = true := by simp [Value.oneCell']
      have lB : w.heap.size ≤ (w1.alloc (.cells #[.int .i64 x] 3)).heap.size := by simp; omega
      have l63 : k + 1 ≤ maxLen := by simp only [maxLen]; omega
      have l64 : (k + 1) * 8 ≤ 140737488355328 := by omega
      have hB1 : Below w1.heap.size w1 (w1.alloc (.cells #[.int .i64 x] 3)) := (Below.refl _ _).alloc (Nat.le_refl _) _
      have h2 := h1.nextB hB1
      have lt2 := h1.lt
      clear hp own hq hD hM M1 c0 HR hDo hDf
      go_wp2_with (at_builtin; refine wpList_append_lies _ rfl (.tmp 24) (.tmp 26) 31 rfl w.heap.size 3 i0 (.int .i64 0) 1 8 Tryz.underlying31 hi hz0 hz1 hz2 rfl (by decide) _ k (kRow K k) rfl ow ⟨w1.heap.size, 0, none⟩ 1 1 [.int .i64 x] rfl rfl N6 one (by decide) l63 l64 lB _ rfl ?_; intro gN capN w6 hown hgrow hat hltN)
      have KP : KeptP (fun q => (Value.slice aR k cR).ownBlock = some q) (w1.alloc (.cells #[.int .i64 x] 3)) w6 := ⟨hgrow.os, hgrow.tape, hgrow.output, hgrow.size, fun q hq z => hgrow.block q hq fun e => z e.symm⟩
      have h6 : RCh F1 w6 cb D1 := h2.keptP KP (fun q e g => q1 q e g)
      have M6 : Moved F F1 w w6 := ⟨(MM.kept.trans (KeptP.of_below (F := fun _ => False) hB1) fun _ _ g => g.elim).trans KP fun q hq g => absurd (ow.lt q g).1 (Nat.not_le.2 hq), MM.old⟩
      have q6 : ∀ q, (Value.slice (some ⟨gN, 0, none⟩) (k + 1) capN).ownBlock = some q → ¬ F1 q := fun q e g => by
        obtain rfl : gN = q := by simpa [Value.ownBlock] using e
        rcases hat with z | z
        · exact q1 gN z g
        · have := lt2 gN g
          rw [z] at this
          simp at this
          omega
      rw [← kRow_next] at hown
      clear KP hgrow ow N6 own1 q1 h1 h2 MM hB1 hat lt2
      go_roundw
      case rel => exact ⟨k + 1, _, D1, F1, by omega, by go_num, HN.out, h6, M6, hown, q6⟩
      case measure => simp [intOf]; omega
    · obtain rfl : k = n := by omega
      have R := row_reads own
      have Q := fun q e => (⟨(own.lt q e).1, hq q e⟩ : w.heap.size ≤ q ∧ ¬ F' q)
      have k3 : (k : Int) < 3000 := by omega
      clear own hq hA
      go_wp2_with fail
      go_ret
      exact ⟨_, K, D, F', rfl, hran, hD, hM, R, Q⟩
end Go.Proofs.YtaihcceobnfmhaaGreatDoor

namespace Go.Proofs.YtaihcceobnfmhaaGreatDoor
open Go.RowKit

set_option maxRecDepth 100000 in
set_option maxHeartbeats 4000000 in
theorem playRuns_walk (seed : Nat) (hs : seed < W64) (a : Option Addr) (n cap : Nat) (W : Nat → Int) (hW : ∀ i, i < n → W i ≤ 9223372036854775807) (A : Nat → Addr) (w : World) (hL : Laid w A) (h200 : n ≤ 200) (hA : RowV w (.slice a n cap) n W) :
    Calls Tryz.prog 8 #[.int .u64 seed, .slice a n cap] w fun e w' => e = .returned (.bool true) ∧ Below w.heap.size w w' := by
  go_enter Tryz.func8, Tryz.ntmps8
  go_wp2_with fail
  refine (played_of A w hL).mono ?_
  rintro e w1 ⟨rfl, hB1⟩
  go_wp2_with fail
  refine (pch_new seed hs A w1 (hL.chP.below hB1)).mono ?_
  rintro e w2 ⟨cb, F2, rfl, h2, hF2, hB2⟩
  go_wp2_with fail
  refine (rch_new seed w2).mono ?_
  rintro e w3 ⟨rb, G3, rfl, k3, hG3, hB3⟩
  have B12 := hB1.trans (hB2.mono hB1.size)
  have W3 : Sides w.heap.size w w3 F2 G3 := ⟨fun k hk hg => by have := h2.lt k hk; have := hG3 k hg; omega, fun k hk => Nat.le_trans hB1.size (hF2 k hk), fun k hk => Nat.le_trans B12.size (hG3 k hk), B12.trans (hB3.mono B12.size), Nat.le_trans B12.size hB3.size⟩
  have h3 := h2.nextB hB3
  have R3 := hA.below W3.below
  clear h2 hF2 hG3 hB1 hB2 hB3 B12
  go_wp2_with fail
  refine (own_of _ n (by omega) W hW w3 R3).mono ?_
  rintro e w4 ⟨u, rfl, hS, hB4⟩
  have S4 := hS F2 h3.lt
  have h4 := h3.nextB hB4
  have k4 := k3.nextB hB4
  have W4 := W3.nextB hB4
  clear h3 k3 W3 hB4 hS R3
  go_wp2_with fail
  refine (pl_run F2 cb (chNew seed) (chNew_ok seed hs) 0 (chNew_fit seed) n (by omega) 10000 (by omega) u W A w hL w4 ⟨W4.f, W4.below, W4.size⟩ h4 S4).mono ?_
  rintro e w5 ⟨v, K, C5, F5, g5, rfl, ran, hg5, h5, M5, own5, q5⟩
  have k5 := k4.keptP M5.kept W4.apart
  have W5 := W4.one k4.lt M5
  have V5 := row_reads own5
  have vG : ∀ q, v.ownBlock = some q → ¬ G3 q := fun q e g => by have := (own5.lt q e).1; have := k4.lt q g; omega
  obtain ⟨ok5, fit5⟩ := RanTo.ok (chNew_ok seed hs) (chNew_fit seed) n ran
  have S5 : ∀ i, i < n → ∃ b off, a = some ⟨b, off, none⟩ ∧ b < w5.heap.size ∧ ¬ G3 b ∧ w5.cell? ⟨b, off + i, none⟩ = some (.int .i64 (W i)) ∧ W i ≤ 9223372036854775807 := fun i hi => by
    obtain ⟨a', c', e', hA⟩ := hA
    cases e'
    obtain ⟨b, off, e, hb, c⟩ := hA i hi
    exact ⟨b, off, e, Nat.lt_of_lt_of_le hb W5.below.size, fun g => by have := W5.g b g; omega, by rw [W5.below.cell (p := ⟨b, off + i, none⟩) hb]; exact c, hW i hi⟩
  clear h4 k4 W4 S4 M5 q5
  go_wp2_with fail
  refine (rch_run G3 rb (chNew seed) (chNew_ok seed hs) 0 (chNew_fit seed) a n cap (by omega) W w5 k5 S5).mono ?_
  rintro e w6 ⟨v', K', C6, G6, rfl, ran', k6, M6, V6, q6⟩
  obtain ⟨rfl, eK⟩ := RanTo.one n ran ran'
  have own6 := ownsRow_keptP own5 M6.kept vG
  have V5' := row_reads own6
  have V6' := V6.congr (fun i hi => (eK i hi).symm)
  have h6 := h5.keptP M6.kept (fun k hg hf => W5.apart k hf hg)
  have W6 := W5.two h5.lt M6
  clear h5 k5 W5 S5 M6 V5 V6 q6 own5 own6 vG ran ran' eK
  go_wp2_with fail
  refine (sameInts_of v v' n (by omega) K w6 V5' V6').mono ?_
  rintro e w7 ⟨rfl, m7, hw⟩
  have B7 : Below w6.heap.size w6 w7 := by rw [hw]; exact below_drewN (Below.refl _ _) m7
  have h7 := h6.nextB B7
  have k7 := k6.nextB B7
  have W7 := W6.nextB B7
  clear hw h6 k6 W6 B7 V5' V6'
  go_wp2_with fail
  refine (asChain_of w F5 G6 cb rb C5 ok5 (by have := fit5.k; omega) (by have := fit5.y; have := fit5.v; omega) g5 w7 h7 k7 W7).mono ?_
  rintro e w8 ⟨rfl, h8, k8, W8⟩
  clear h7 k7 W7
  go_wp2_with fail
  refine (pl_add F5 cb C5 ok5 (by have := fit5.k; omega) g5 w8 h8).mono ?_
  rintro e w9 ⟨rfl, hB9⟩
  have k9 := k8.nextB hB9
  have W9 := W8.nextB hB9
  clear h8 k8 W8 hB9
  have hB10 : Below w9.heap.size w9 (w9.alloc (.cells #[.int .i64 C5.p.sum, .int .i64 C5.s.total, .int .i64 C5.p.S] 53)) := (Below.refl _ _).alloc (Nat.le_refl _) _
  have k10 := k9.nextB hB10
  have W10 := W9.nextB hB10
  have s0 : (w9.alloc (.cells #[.int .i64 C5.p.sum, .int .i64 C5.s.total, .int .i64 C5.p.S] 53)).cell? ⟨w9.heap.size, 0, none⟩ = some (.int .i64 C5.p.sum) := by simp
  have s1 : (w9.alloc (.cells #[.int .i64 C5.p.sum, .int .i64 C5.s.total, .int .i64 C5.p.S] 53)).cell? ⟨w9.heap.size, 1, none⟩ = some (.int .i64 C5.s.total) := by simp
  have s2 : (w9.alloc (.cells #[.int .i64 C5.p.sum, .int .i64 C5.s.total, .int .i64 C5.p.S] 53)).cell? ⟨w9.heap.size, 2, none⟩ = some (.int .i64 C5.p.S) := by simp
  clear k9 W9 hB10
  go_wp2_with fail
  generalize w9.alloc (.cells #[.int .i64 C5.p.sum, .int .i64 C5.s.total, .int .i64 C5.p.S] 53) = wz at *
  generalize w9.heap.size = na at *
  obtain ⟨pb, sb, kb, zR⟩ := k10.parts
  obtain ⟨pq, hp⟩ := zR.pur
  have c0 := zR.c0
  have c1 := zR.c1
  have p1 : wz.cell? ⟨pb, 1, none⟩ = some (.int .i64 C5.p.S) := hp.c1
  have d0 : (C5.p.sum == C5.p.sum) = true := by simp
  have d1 : (C5.s.total == C5.s.total) = true := by simp
  have d2 : (C5.p.S == C5.p.S) = true := by simp
  have B0 : Below wz.heap.size wz wz := Below.refl _ _
  go_region_held3 (fun w' => w'.cell? ⟨na, 0, none⟩ = some (.int .i64 C5.p.sum) ∧ w'.cell? ⟨na, 1, none⟩ = some (.int .i64 C5.s.total) ∧ w'.cell? ⟨na, 2, none⟩ = some (.int .i64 C5.p.S) ∧ w'.cell? ⟨rb, 0, none⟩ = some (.pointer (some ⟨pb, 0, none⟩)) ∧ w'.cell? ⟨rb, 1, none⟩ = some (.pointer (some ⟨sb, 0, none⟩)) ∧ w'.cell? ⟨pb, 1, none⟩ = some (.int .i64 C5.p.S)) (exact ⟨by assumption, by assumption, by assumption, by assumption, by assumption, by assumption⟩)
    (first
      | (go_at_call 36; refine (rp_sum pb pq C5.p ok5.p _ (by first | exact hp | exact hp.drewN _)).mono ?_; rintro e w11 ⟨rfl, hw11⟩; have B11 : Below wz.heap.size wz w11 := (by rw [hw11]; first | exact B0 | exact below_drewN B0 _); have t0 := stk_old B11 s0; have t1 := stk_old B11 s1; have t2 := stk_old B11 s2; have t3 := stk_old B11 c0; have t4 := stk_old B11 c1; have t5 := stk_old B11 p1; clear hw11)
      | (go_at_call 37; obtain ⟨Gs, hGs, _⟩ := (zR.nextB B11).stk; refine (rsk_total Gs sb C5.s ok5.s (by have := fit5.k; omega) _ (by first | exact hGs | exact hGs.drewN _)).mono ?_; rintro e w12 ⟨rfl, hw12⟩; have B12 : Below wz.heap.size wz w12 := (by rw [hw12]; first | exact B11 | exact below_drewN B11 _); have v0 := stk_old B12 s0; have v1 := stk_old B12 s1; have v2 := stk_old B12 s2; have v3 := stk_old B12 c0; have v4 := stk_old B12 c1; have v5 := stk_old B12 p1; clear hw12))
  have hB := (W10.nextB B12).below
  go_wp2_with fail
  go_ret
  exact ⟨rfl, hB⟩
set_option maxRecDepth 100000 in
theorem playRuns_many (seed : Nat) (a : Option Addr) (n cap : Nat) (h : 200 < n) (hm : n ≤ 9223372036854775807) (A : Nat → Addr) (w : World) (hL : Laid w A) :
    Calls Tryz.prog 8 #[.int .u64 seed, .slice a n cap] w fun e w' => e = .returned (.bool true) ∧ Below w.heap.size w w' := by
  go_enter Tryz.func8, Tryz.ntmps8
  go_wp2_with fail
  refine (played_of A w hL).mono ?_
  rintro e w1 ⟨rfl, hB1⟩
  go_wp2
  go_ret
  exact ⟨rfl, hB1⟩
end Go.Proofs.YtaihcceobnfmhaaGreatDoor
