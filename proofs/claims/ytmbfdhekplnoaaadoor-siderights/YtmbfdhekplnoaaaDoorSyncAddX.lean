/-
  sync.WaitGroup in company: Done, of a worker that leaves.
  A WORKER, from its birth: it puts Done off, and works; the numbers being closed, it says Done.
  sync.WaitGroup in company: Add(1), of the starter that hires.
-/
import Derived.Test.YtmbfdhekplnoaaaDoorSyncLinkX
import Derived.Test.YtmbfdhekplnoaaaDoorHandOutX
namespace Go.Proofs.YtmbfdhekplnoaaaDoor
open Go Go.Conc Go.RowKit Go.Conc.Lib Go.ConcR.Gen Go.ConcN.Gen
open Go.ConcN (st_flag st_waiters)
open Go.ConcR (KK wgBlock WgAt stA smA rd wr mk Payload DC0)

section done
variable {L : WgLink} {Y : Yard}
set_option maxRecDepth 100000 in
set_option maxHeartbeats 16000000 in
theorem done_walk (S : Y.Syncs L) {O : Nat → Prop} {c : Frame} {cs : List Frame} {qt : Nat} (hcm : c.mode = .returning) (hT : QuitsD Y.F.P qt 0 (G c cs)) (w : World) (hK : Live L.tWg Y.Wg w) :
    GoesJ Y.F.P false Y.F.J Y.F.Sh (YR0 Y) O (G ((baseD L.done).at ⟨#[.pointer (some ⟨Y.Wg, 0, none⟩), undef, undef, undef], []⟩ [.code ((doneFn L).body.getD .skip)]) (c :: cs)) w := by
  obtain ⟨H, hty, hj⟩ := S
  lib_facts
  have hR := fun (W W1 : World) (q : RelyJ Y.F.J O Y.F.Sh W W1) (_ : Live L.tWg Y.Wg W) => (hj W1).1 q.j
  refine gj_of (n := 60) (S := fun g W => YR0 Y O g W) hR (fun _ _ q => q) ?_
  simp only [doneFn, Option.getD_some]
  u_reg live_rely hK
  u_op live_rely hK
  u_in live_rely hK
  refine goes_call rfl rfl (by k_ne) rfl H.f_add (nm_add L) rfl ⟨by u_nil, ?_⟩
  walk_nrmf addFn
  u_c stepG_seq live_rely hK
  u_cond true live_rely hK
  u_c stepG_seq live_rely hK
  u_c stepG_seq live_rely hK
  u_reg live_rely hK
  u_op live_rely hK
  u_op live_rely hK
  u_c stepG_region_end live_rely hK
  u_cond true live_rely hK
  u_reg live_rely hK
  u_op live_rely hK
  u_in live_rely hK
  refine goes_oper_k rfl rfl (by k_ne) (fun Kx hKx => ?_)
  have hcv := run_convert_to_unsafe (P := Y.F.P) H.underlying_tWgP H.underlying_tUP H.room_tWg (live_cell0 hK).choose_spec
  have hce := fun es => events_convert_to_unsafe (P := Y.F.P) H.underlying_tWgP H.underlying_tUP H.room_tWg (live_cell0 hK).choose_spec es
  go_simp
  refine hKx _ _ ⟨?_, ?_⟩
  · u_none
    intro ex hex
    have hmx := mem_listed hex
    simp [go_sem, hce] at hmx
  clear hKx Kx hcv hce
  refine Goes.stop (fun w1 h1 => ?_)
  replace hK := live_rely hK h1
  clear h1
  refine ⟨rfl, fun d => ⟨_, stepG_markAt .releaseMerge (by simp) rfl rfl (by k_ne) rfl H.f_relMerge (x_relMerge_n L) (x_relMerge_b L) (x_relMerge_x L) (x_relMerge_f L) (by simp [Act.eval, stA]), ?_⟩⟩
  replace hK : Live L.tWg Y.Wg (w1.at d) := hK
  refine wk_of (n := 20) (S := fun g W => YK1 Y O g W) hR (fun _ _ q => q) ?_
  walk_nrm
  u_c stepG_region_end live_rely hK
  u_c stepG_seq live_rely hK
  u_reg live_rely hK
  refine Goes.stop (fun w2 h2 => ?_)
  replace hK := live_rely hK h2
  clear h2
  refine ⟨rfl, fun d2 => ⟨_, stepG_mark0 .disable (by simp) rfl rfl (by k_ne) rfl H.f_disable (x_disable_n L) (x_disable_b L) (x_disable_x L) (x_disable_f L), ?_⟩⟩
  replace hK : Live L.tWg Y.Wg (w2.at d2) := hK
  refine wk_of (n := 60) (S := fun g W => YD1 Y O g W) hR (fun _ _ q => q) ?_
  walk_nrm
  u_c stepG_region_end live_rely hK
  u_reg live_rely hK
  u_defer live_rely hK
  u_c stepG_region_end live_rely hK
  u_c stepG_seq live_rely hK
  u_reg live_rely hK
  u_op live_rely hK
  u_c stepG_region_end live_rely hK
  u_c stepG_seq live_rely hK
  u_c stepG_seq live_rely hK
  u_reg live_rely hK
  u_bub live_rely hK
  u_c stepG_region_end live_rely hK
  u_cond false live_rely hK
  u_c stepG_skip live_rely hK
  u_c stepG_seq live_rely hK
  u_reg live_rely hK
  u_op live_rely hK
  u_op live_rely hK
  u_op live_rely hK
  u_op live_rely hK
  u_op live_rely hK
  u_op live_rely hK
  u_call H.f_uAdd (nm_uAdd L) uAddFn live_rely hK
  u_c stepG_seq live_rely hK
  u_reg live_rely hK
  u_op live_rely hK
  u_c stepG_region_end live_rely hK
  u_c stepG_seq live_rely hK
  u_reg live_rely hK
  u_op live_rely hK
  u_op live_rely hK
  u_op live_rely hK
  u_op live_rely hK
  refine Goes.stop (fun w3 h3 => ?_)
  clear h3 hK
  refine ⟨rfl, fun d3 v wt hwt hv hw => ?_⟩
  replace hw : WgAt L.tWg Y.Wg (w3.at d3) ((v + 1 : Nat) * KK + wt) 0 := by rw [← hty]; exact hw
  rcases Nat.eq_zero_or_pos v with rfl | hvp <;> (obtain rfl | rfl : wt = 0 ∨ wt = 1 := by omega)
  · -- nobody is left, nobody waits
    replace hw : WgAt L.tWg Y.Wg (w3.at d3) (KK) 0 := by simpa using hw
    have z : ((0 : Nat) : Int) * KK + ((0 : Nat) : Int) = 0 := by simp
    rw [z]
    have e0 : IntKind.u64.wrap (KK + 18446744069414584320) = 0 := by decide
    refine ⟨_, (stepG_add_atomic rfl rfl (by k_ne) rfl H.f_addU64 (x_addU64_n L) (x_addU64_b L) (x_addU64_x L) .u64 (x_addU64_f L) rfl rfl hw.cellSt (hw.thaw 0)).trans (by rw [e0]; rfl), fun hl => absurd hl.2 (by decide), fun _ => ⟨qt + 200, ?_⟩⟩
    walk_nrm
    refine QuitsD.value (.int .u64 0) rfl rfl (by k_ne) ?_ ?_ ?_
    · intro _
      go_simp
      try (first | omega | (w_num; omega) | w_num | decide)
    · intro _
      simp [go_sem, *]
    walk_nrm
    q_c stepG_region_end
    q_c stepG_ret'
    q_leave1 H.f_uAdd
    refine QuitsD.value (.int .u64 0) rfl rfl (by k_ne) ?_ ?_ ?_
    · intro _
      go_simp
      try (first | omega | (w_num; omega) | w_num | decide)
    · intro _
      simp [go_sem, *]
    walk_nrm
    q_c stepG_region_end
    q_c stepG_seq
    q_c stepG_seq
    q_reg
    refine QuitsD.value (.int .u64 0) rfl rfl (by k_ne) ?_ ?_ ?_
    · intro _
      go_simp
      try (first | omega | (w_num; omega) | w_num | decide)
    · intro _
      simp [go_sem, *]
    walk_nrm
    refine QuitsD.value (.int .u64 0) rfl rfl (by k_ne) ?_ ?_ ?_
    · intro _
      go_simp
      try (first | omega | (w_num; omega) | w_num | decide)
    · intro _
      simp [go_sem, *]
    walk_nrm
    refine QuitsD.value (.bool false) rfl rfl (by k_ne) ?_ ?_ ?_
    · intro _
      go_simp
      try (first | omega | (w_num; omega) | w_num | decide)
    · intro _
      simp [go_sem, *]
    walk_nrm
    refine QuitsD.value (.bool false) rfl rfl (by k_ne) ?_ ?_ ?_
    · intro _
      go_simp
      try (first | omega | (w_num; omega) | w_num | decide)
    · intro _
      simp [go_sem, *]
    walk_nrm
    q_skip
    q_skip
    refine QuitsD.value (.bool false) rfl rfl (by k_ne) ?_ ?_ ?_
    · intro _
      go_simp
      try (first | omega | (w_num; omega) | w_num | decide)
    · intro _
      simp [go_sem, *]
    walk_nrm
    q_c stepG_region_end
    q_cond false
    q_c stepG_skip
    q_c stepG_seq
    q_reg
    refine QuitsD.value (.int .u64 0) rfl rfl (by k_ne) ?_ ?_ ?_
    · intro _
      go_simp
      try (first | omega | (w_num; omega) | w_num | decide)
    · intro _
      simp [go_sem, *]
    walk_nrm
    refine QuitsD.value (.int .u64 0) rfl rfl (by k_ne) ?_ ?_ ?_
    · intro _
      go_simp
      try (first | omega | (w_num; omega) | w_num | decide)
    · intro _
      simp [go_sem, *]
    walk_nrm
    refine QuitsD.value (.int .i32 0) rfl rfl (by k_ne) ?_ ?_ ?_
    · intro _
      go_simp
      try (first | omega | (w_num; omega) | w_num | decide)
    · intro _
      simp [go_sem, *]
    walk_nrm
    refine QuitsD.value (.int .i32 0) rfl rfl (by k_ne) ?_ ?_ ?_
    · intro _
      go_simp
      try (first | omega | (w_num; omega) | w_num | decide)
    · intro _
      simp [go_sem, *]
    walk_nrm
    q_c stepG_region_end
    q_c stepG_seq
    q_reg
    refine QuitsD.value (.int .u64 0) rfl rfl (by k_ne) ?_ ?_ ?_
    · intro _
      go_simp
      try (first | omega | (w_num; omega) | w_num | decide)
    · intro _
      simp [go_sem, *]
    walk_nrm
    refine QuitsD.value (.int .u64 0) rfl rfl (by k_ne) ?_ ?_ ?_
    · intro _
      go_simp
      try (first | omega | (w_num; omega) | w_num | decide)
    · intro _
      simp [go_sem, *]
    walk_nrm
    refine QuitsD.value (.int .u32 0) rfl rfl (by k_ne) ?_ ?_ ?_
    · intro _
      go_simp
      try (first | omega | (w_num; omega) | w_num | decide)
    · intro _
      simp [go_sem, *]
    walk_nrm
    refine QuitsD.value (.int .u32 0) rfl rfl (by k_ne) ?_ ?_ ?_
    · intro _
      go_simp
      try (first | omega | (w_num; omega) | w_num | decide)
    · intro _
      simp [go_sem, *]
    walk_nrm
    q_c stepG_region_end
    q_c stepG_seq
    q_c stepG_seq
    q_reg
    refine QuitsD.value (.bool true) rfl rfl (by k_ne) ?_ ?_ ?_
    · intro _
      go_simp
      try (first | omega | (w_num; omega) | w_num | decide)
    · intro _
      simp [go_sem, *]
    walk_nrm
    refine QuitsD.value (.int .i64 (-1)) rfl rfl (by k_ne) ?_ ?_ ?_
    · intro _
      go_simp
      try (first | omega | (w_num; omega) | w_num | decide)
    · intro _
      simp [go_sem, *]
    walk_nrm
    refine QuitsD.value (.bool false) rfl rfl (by k_ne) ?_ ?_ ?_
    · intro _
      go_simp
      try (first | omega | (w_num; omega) | w_num | decide)
    · intro _
      simp [go_sem, *]
    walk_nrm
    refine QuitsD.value (.bool false) rfl rfl (by k_ne) ?_ ?_ ?_
    · intro _
      go_simp
      try (first | omega | (w_num; omega) | w_num | decide)
    · intro _
      simp [go_sem, *]
    walk_nrm
    refine QuitsD.value (.bool false) rfl rfl (by k_ne) ?_ ?_ ?_
    · intro _
      go_simp
      try (first | omega | (w_num; omega) | w_num | decide)
    · intro _
      simp [go_sem, *]
    walk_nrm
    q_skip
    q_skip
    q_skip
    q_skip
    refine QuitsD.value (.bool false) rfl rfl (by k_ne) ?_ ?_ ?_
    · intro _
      go_simp
      try (first | omega | (w_num; omega) | w_num | decide)
    · intro _
      simp [go_sem, *]
    walk_nrm
    q_c stepG_region_end
    q_cond false
    q_c stepG_skip
    q_c stepG_seq
    q_c stepG_seq
    q_reg
    refine QuitsD.value (.int .i32 0) rfl rfl (by k_ne) ?_ ?_ ?_
    · intro _
      go_simp
      try (first | omega | (w_num; omega) | w_num | decide)
    · intro _
      simp [go_sem, *]
    walk_nrm
    refine QuitsD.value (.bool false) rfl rfl (by k_ne) ?_ ?_ ?_
    · intro _
      go_simp
      try (first | omega | (w_num; omega) | w_num | decide)
    · intro _
      simp [go_sem, *]
    walk_nrm
    q_c stepG_region_end
    q_cond false
    q_c stepG_skip
    q_c stepG_seq
    q_c stepG_seq
    q_reg
    refine QuitsD.value (.int .u32 0) rfl rfl (by k_ne) ?_ ?_ ?_
    · intro _
      go_simp
      try (first | omega | (w_num; omega) | w_num | decide)
    · intro _
      simp [go_sem, *]
    walk_nrm
    refine QuitsD.value (.bool false) rfl rfl (by k_ne) ?_ ?_ ?_
    · intro _
      go_simp
      try (first | omega | (w_num; omega) | w_num | decide)
    · intro _
      simp [go_sem, *]
    walk_nrm
    refine QuitsD.value (.bool false) rfl rfl (by k_ne) ?_ ?_ ?_
    · intro _
      go_simp
      try (first | omega | (w_num; omega) | w_num | decide)
    · intro _
      simp [go_sem, *]
    walk_nrm
    q_skip
    q_skip
    refine QuitsD.value (.bool false) rfl rfl (by k_ne) ?_ ?_ ?_
    · intro _
      go_simp
      try (first | omega | (w_num; omega) | w_num | decide)
    · intro _
      simp [go_sem, *]
    walk_nrm
    refine QuitsD.value (.bool false) rfl rfl (by k_ne) ?_ ?_ ?_
    · intro _
      go_simp
      try (first | omega | (w_num; omega) | w_num | decide)
    · intro _
      simp [go_sem, *]
    walk_nrm
    q_skip
    q_skip
    q_skip
    q_skip
    refine QuitsD.value (.bool false) rfl rfl (by k_ne) ?_ ?_ ?_
    · intro _
      go_simp
      try (first | omega | (w_num; omega) | w_num | decide)
    · intro _
      simp [go_sem, *]
    walk_nrm
    q_c stepG_region_end
    q_cond false
    q_c stepG_skip
    q_c stepG_seq
    q_c stepG_seq
    q_reg
    refine QuitsD.value (.int .i32 0) rfl rfl (by k_ne) ?_ ?_ ?_
    · intro _
      go_simp
      try (first | omega | (w_num; omega) | w_num | decide)
    · intro _
      simp [go_sem, *]
    walk_nrm
    refine QuitsD.value (.bool false) rfl rfl (by k_ne) ?_ ?_ ?_
    · intro _
      go_simp
      try (first | omega | (w_num; omega) | w_num | decide)
    · intro _
      simp [go_sem, *]
    walk_nrm
    refine QuitsD.value (.bool false) rfl rfl (by k_ne) ?_ ?_ ?_
    · intro _
      go_simp
      try (first | omega | (w_num; omega) | w_num | decide)
    · intro _
      simp [go_sem, *]
    walk_nrm
    refine QuitsD.value (.int .u32 0) rfl rfl (by k_ne) ?_ ?_ ?_
    · intro _
      go_simp
      try (first | omega | (w_num; omega) | w_num | decide)
    · intro _
      simp [go_sem, *]
    walk_nrm
    refine QuitsD.value (.bool true) rfl rfl (by k_ne) ?_ ?_ ?_
    · intro _
      go_simp
      try (first | omega | (w_num; omega) | w_num | decide)
    · intro _
      simp [go_sem, *]
    walk_nrm
    refine QuitsD.value (.bool true) rfl rfl (by k_ne) ?_ ?_ ?_
    · intro _
      go_simp
      try (first | omega | (w_num; omega) | w_num | decide)
    · intro _
      simp [go_sem, *]
    walk_nrm
    q_c stepG_region_end
    q_cond true
    q_c stepG_ret'
    q_enable
    q_leave0 H.f_add
    q_c stepG_region_end
    q_c stepG_end
    exact QuitsD.leaveD rfl rfl H.f_done rfl hcm (quits_mono hT (by omega))
  · -- the last one, and the starter waits
    replace hw : WgAt L.tWg Y.Wg (w3.at d3) (KK + 1) 0 := by simpa using hw
    have z : ((0 : Nat) : Int) * KK + ((1 : Nat) : Int) = 1 := by simp
    rw [z]
    have e0 : IntKind.u64.wrap (KK + 1 + 18446744069414584320) = 1 := by decide
    refine ⟨_, (stepG_add_atomic rfl rfl (by k_ne) rfl H.f_addU64 (x_addU64_n L) (x_addU64_b L) (x_addU64_x L) .u64 (x_addU64_f L) rfl rfl hw.cellSt (hw.thaw 0)).trans (by rw [e0]; rfl), fun _ => ?_, fun hl => absurd ⟨rfl, rfl⟩ hl⟩
    have hK : Live L.tWg Y.Wg ((w3.at d3).setCell (stA Y.Wg) (.int .u64 1)) := ⟨_, _, hw.setSt 1⟩
    clear hw
    refine wk_of (n := 130) (S := fun g W => YD2 Y O g W) hR (fun _ _ q => q) ?_
    walk_nrm
    u_op live_rely hK
    u_c stepG_region_end live_rely hK
    u_c stepG_ret' live_rely hK
    u_leave1 H.f_uAdd live_rely hK
    u_op live_rely hK
    u_c stepG_region_end live_rely hK
    u_c stepG_seq live_rely hK
    u_c stepG_seq live_rely hK
    u_reg live_rely hK
    u_op live_rely hK
    u_op live_rely hK
    u_op live_rely hK
    u_op live_rely hK
    u_skip live_rely hK
    u_skip live_rely hK
    u_op live_rely hK
    u_c stepG_region_end live_rely hK
    u_cond false live_rely hK
    u_c stepG_skip live_rely hK
    u_c stepG_seq live_rely hK
    u_reg live_rely hK
    u_op live_rely hK
    u_op live_rely hK
    u_op live_rely hK
    u_op live_rely hK
    u_c stepG_region_end live_rely hK
    u_c stepG_seq live_rely hK
    u_reg live_rely hK
    u_op live_rely hK
    u_op live_rely hK
    u_op live_rely hK
    u_op live_rely hK
    u_c stepG_region_end live_rely hK
    u_c stepG_seq live_rely hK
    u_c stepG_seq live_rely hK
    u_reg live_rely hK
    u_op live_rely hK
    u_op live_rely hK
    u_op live_rely hK
    u_op live_rely hK
    u_op live_rely hK
    u_skip live_rely hK
    u_skip live_rely hK
    u_skip live_rely hK
    u_skip live_rely hK
    u_op live_rely hK
    u_c stepG_region_end live_rely hK
    u_cond false live_rely hK
    u_c stepG_skip live_rely hK
    u_c stepG_seq live_rely hK
    u_c stepG_seq live_rely hK
    u_reg live_rely hK
    u_op live_rely hK
    u_op live_rely hK
    u_c stepG_region_end live_rely hK
    u_cond false live_rely hK
    u_c stepG_skip live_rely hK
    u_c stepG_seq live_rely hK
    u_c stepG_seq live_rely hK
    u_reg live_rely hK
    u_op live_rely hK
    u_op live_rely hK
    u_op live_rely hK
    u_op live_rely hK
    u_op live_rely hK
    u_op live_rely hK
    u_op live_rely hK
    u_skip live_rely hK
    u_skip live_rely hK
    u_skip live_rely hK
    u_skip live_rely hK
    u_op live_rely hK
    u_c stepG_region_end live_rely hK
    u_cond false live_rely hK
    u_c stepG_skip live_rely hK
    u_c stepG_seq live_rely hK
    u_c stepG_seq live_rely hK
    u_reg live_rely hK
    u_op live_rely hK
    u_op live_rely hK
    u_op live_rely hK
    u_op live_rely hK
    u_op live_rely hK
    u_op live_rely hK
    u_c stepG_region_end live_rely hK
    u_cond false live_rely hK
    u_c stepG_skip live_rely hK
    u_c stepG_seq live_rely hK
    u_c stepG_seq live_rely hK
    u_reg live_rely hK
    u_op live_rely hK
    u_op live_rely hK
    u_op live_rely hK
    u_call H.f_uLoad (nm_uLoad L) uLoadFn live_rely hK
    u_c stepG_seq live_rely hK
    u_reg live_rely hK
    u_op live_rely hK
    u_c stepG_region_end live_rely hK
    u_c stepG_seq live_rely hK
    u_reg live_rely hK
    u_op live_rely hK
    u_op live_rely hK
    u_op live_rely hK
    refine Goes.stop (fun w4 h4 => ?_)
    clear h4 hK
    refine ⟨rfl, fun d4 hw => ?_⟩
    replace hw : WgAt L.tWg Y.Wg (w4.at d4) 1 0 := by rw [← hty]; exact hw
    refine ⟨_, stepG_load_atomic rfl rfl (by k_ne) rfl H.f_loadU64 (x_loadU64_n L) (x_loadU64_b L) (x_loadU64_x L) .u64 (x_loadU64_f L) rfl hw.cellSt, ?_⟩
    have hK : Live L.tWg Y.Wg (w4.at d4) := ⟨_, _, hw⟩
    clear hw
    refine wk_of (n := 60) (S := fun g W => YD3 Y O g W) hR (fun _ _ q => q) ?_
    walk_nrm
    u_op live_rely hK
    u_c stepG_region_end live_rely hK
    u_c stepG_ret' live_rely hK
    u_leave1 H.f_uLoad live_rely hK
    u_op live_rely hK
    u_op live_rely hK
    u_c stepG_region_end live_rely hK
    u_cond false live_rely hK
    u_c stepG_skip live_rely hK
    u_c stepG_seq live_rely hK
    u_reg live_rely hK
    u_op live_rely hK
    u_op live_rely hK
    u_op live_rely hK
    u_call H.f_uStore (nm_uStore L) uStoreFn live_rely hK
    u_reg live_rely hK
    u_op live_rely hK
    u_op live_rely hK
    u_op live_rely hK
    u_op live_rely hK
    refine Goes.stop (fun w5 h5 => ?_)
    clear h5 hK
    refine ⟨rfl, fun d5 hw => ?_⟩
    replace hw : WgAt L.tWg Y.Wg (w5.at d5) 1 0 := by rw [← hty]; exact hw
    refine ⟨_, stepG_store_atomic rfl rfl (by k_ne) rfl H.f_storeU64 (x_storeU64_n L) (x_storeU64_b L) (x_storeU64_x L) (x_storeU64_f L) rfl rfl hw.cellSt (hw.thaw 0), ?_⟩
    have hK : Live L.tWg Y.Wg ((w5.at d5).setCell (stA Y.Wg) (.int .u64 0)) := ⟨_, _, hw.setSt 0⟩
    clear hw
    refine wk_of (n := 80) (S := fun g W => YD4 Y O g W) hR (fun _ _ q => q) ?_
    walk_nrm
    u_c stepG_region_end live_rely hK
    u_c stepG_end live_rely hK
    u_leave0 H.f_uStore live_rely hK
    u_c stepG_region_end live_rely hK
    u_c stepG_seq live_rely hK
    u_c stepG_seq live_rely hK
    u_reg live_rely hK
    u_op live_rely hK
    u_c stepG_region_end live_rely hK
    u_cond false live_rely hK
    u_c stepG_skip live_rely hK
    u_c stepG_block live_rely hK
    u_c stepG_loop live_rely hK
    u_c stepG_seq live_rely hK
    u_c stepG_seq live_rely hK
    u_reg live_rely hK
    u_op live_rely hK
    u_op live_rely hK
    u_c stepG_region_end live_rely hK
    u_cond true live_rely hK
    u_c stepG_skip live_rely hK
    u_c stepG_seq live_rely hK
    u_c stepG_block live_rely hK
    u_reg live_rely hK
    u_op live_rely hK
    u_op live_rely hK
    u_op live_rely hK
    refine Goes.stop (fun w6 h6 => ?_)
    clear h6 hK
    refine ⟨rfl, mayWake_entry rfl rfl H.f_semrelease (x_semrelease_b L), fun d6 hw => ?_⟩
    replace hw : WgAt L.tWg Y.Wg (w6.at d6) 0 0 := by rw [← hty]; exact hw
    refine ⟨_, (stepG_semrelease rfl rfl (by k_ne) rfl H.f_semrelease (x_semrelease_n L) (x_semrelease_b L) (x_semrelease_x L) (x_semrelease_f L) (by simp [Act.eval, smA]) hw.cellSm (hw.thaw 1)).trans (by rfl), ⟨qt + 200, ?_⟩⟩
    clear hw
    walk_nrm
    q_c stepG_region_end
    q_c stepG_inBlock
    q_reg
    refine QuitsD.value (.int .u32 1) rfl rfl (by k_ne) ?_ ?_ ?_
    · intro _
      go_simp
      try (first | omega | (w_num; omega) | w_num | decide)
    · intro _
      simp [go_sem, *]
    walk_nrm
    refine QuitsD.value (.int .u32 0) rfl rfl (by k_ne) ?_ ?_ ?_
    · intro _
      go_simp
      try (first | omega | (w_num; omega) | w_num | decide)
    · intro _
      simp [go_sem, *]
    walk_nrm
    refine QuitsD.value (.int .u32 0) rfl rfl (by k_ne) ?_ ?_ ?_
    · intro _
      go_simp
      try (first | omega | (w_num; omega) | w_num | decide)
    · intro _
      simp [go_sem, *]
    walk_nrm
    q_c stepG_region_end
    q_c stepG_inLoop
    q_c stepG_seq
    q_c stepG_seq
    q_reg
    refine QuitsD.value (.int .u32 0) rfl rfl (by k_ne) ?_ ?_ ?_
    · intro _
      go_simp
      try (first | omega | (w_num; omega) | w_num | decide)
    · intro _
      simp [go_sem, *]
    walk_nrm
    refine QuitsD.value (.bool false) rfl rfl (by k_ne) ?_ ?_ ?_
    · intro _
      go_simp
      try (first | omega | (w_num; omega) | w_num | decide)
    · intro _
      simp [go_sem, *]
    walk_nrm
    q_c stepG_region_end
    q_cond false
    q_exit
    q_c stepG_end
    q_enable
    q_leave0 H.f_add
    q_c stepG_region_end
    q_c stepG_end
    exact QuitsD.leaveD rfl rfl H.f_done rfl hcm (quits_mono hT (by omega))
  · -- others are left, nobody waits
    have z : ((v : Nat) : Int) * KK + ((0 : Nat) : Int) = (v : Int) * KK + 0 := by simp
    rw [z]
    replace hw : WgAt L.tWg Y.Wg (w3.at d3) (((v : Nat) + 1) * KK + 0) 0 := by simpa using hw
    have hv0 : 0 < v := by omega
    have eS : IntKind.u64.wrap (((v : Nat) + 1) * KK + 0 + 18446744069414584320) = (v : Int) * KK + 0 := by rw [IntKind.wrap_u64]; simp only [KK]; omega
    obtain ⟨S, hS⟩ : ∃ S : Int, S = (v : Int) * KK + 0 := ⟨_, rfl⟩
    rw [← hS] at eS ⊢
    have a1 : S / 4294967296 = (v : Int) := by rw [hS]; simp only [KK]; omega
    have a2 : 0 ≤ S ∧ S < 9223372036854775808 := by rw [hS]; simp only [KK]; omega
    have b1 : bits .and .u64 S 2147483648 = 0 := by rw [hS]; have := st_flag v 0 (by omega) (by omega); simpa [KK] using this
    have b2 : bits .and .u64 S 2147483647 = 0 := by rw [hS]; have := st_waiters v 0 (by omega) (by omega); simpa [KK] using this
    clear hS z
    refine ⟨_, (stepG_add_atomic rfl rfl (by k_ne) rfl H.f_addU64 (x_addU64_n L) (x_addU64_b L) (x_addU64_x L) .u64 (x_addU64_f L) rfl rfl hw.cellSt (hw.thaw 0)).trans (by rw [eS]; rfl), fun hl => absurd hl.1 (by omega), fun _ => ⟨qt + 200, ?_⟩⟩
    walk_nrm
    refine QuitsD.value (.int .u64 S) rfl rfl (by k_ne) ?_ ?_ ?_
    · intro _
      go_simp
      try (first | omega | (w_num; omega) | w_num | decide)
    · intro _
      simp [go_sem, *]
    walk_nrm
    q_c stepG_region_end
    q_c stepG_ret'
    q_leave1 H.f_uAdd
    refine QuitsD.value (.int .u64 S) rfl rfl (by k_ne) ?_ ?_ ?_
    · intro _
      go_simp
      try (first | omega | (w_num; omega) | w_num | decide)
    · intro _
      simp [go_sem, *]
    walk_nrm
    q_c stepG_region_end
    q_c stepG_seq
    q_c stepG_seq
    q_reg
    refine QuitsD.value (.int .u64 S) rfl rfl (by k_ne) ?_ ?_ ?_
    · intro _
      go_simp
      try (first | omega | (w_num; omega) | w_num | decide)
    · intro _
      simp [go_sem, *]
    walk_nrm
    refine QuitsD.value (.int .u64 0) rfl rfl (by k_ne) ?_ ?_ ?_
    · intro _
      go_simp
      try (first | omega | (w_num; omega) | w_num | decide)
    · intro _
      simp [go_sem, *]
    walk_nrm
    refine QuitsD.value (.bool false) rfl rfl (by k_ne) ?_ ?_ ?_
    · intro _
      go_simp
      try (first | omega | (w_num; omega) | w_num | decide)
    · intro _
      simp [go_sem, *]
    walk_nrm
    refine QuitsD.value (.bool false) rfl rfl (by k_ne) ?_ ?_ ?_
    · intro _
      go_simp
      try (first | omega | (w_num; omega) | w_num | decide)
    · intro _
      simp [go_sem, *]
    walk_nrm
    q_skip
    q_skip
    refine QuitsD.value (.bool false) rfl rfl (by k_ne) ?_ ?_ ?_
    · intro _
      go_simp
      try (first | omega | (w_num; omega) | w_num | decide)
    · intro _
      simp [go_sem, *]
    walk_nrm
    q_c stepG_region_end
    q_cond false
    q_c stepG_skip
    q_c stepG_seq
    q_reg
    refine QuitsD.value (.int .u64 S) rfl rfl (by k_ne) ?_ ?_ ?_
    · intro _
      go_simp
      try (first | omega | (w_num; omega) | w_num | decide)
    · intro _
      simp [go_sem, *]
    walk_nrm
    refine QuitsD.value (.int .u64 (v : Int)) rfl rfl (by k_ne) ?_ ?_ ?_
    · intro _
      go_simp
      try (first | omega | (w_num; omega) | w_num | decide)
    · intro _
      simp [go_sem, *]
    walk_nrm
    refine QuitsD.value (.int .i32 (v : Int)) rfl rfl (by k_ne) ?_ ?_ ?_
    · intro _
      go_simp
      try (first | omega | (w_num; omega) | w_num | decide)
    · intro _
      simp [go_sem, *]
    walk_nrm
    refine QuitsD.value (.int .i32 (v : Int)) rfl rfl (by k_ne) ?_ ?_ ?_
    · intro _
      go_simp
      try (first | omega | (w_num; omega) | w_num | decide)
    · intro _
      simp [go_sem, *]
    walk_nrm
    q_c stepG_region_end
    q_c stepG_seq
    q_reg
    refine QuitsD.value (.int .u64 S) rfl rfl (by k_ne) ?_ ?_ ?_
    · intro _
      go_simp
      try (first | omega | (w_num; omega) | w_num | decide)
    · intro _
      simp [go_sem, *]
    walk_nrm
    refine QuitsD.value (.int .u64 0) rfl rfl (by k_ne) ?_ ?_ ?_
    · intro _
      go_simp
      try (first | omega | (w_num; omega) | w_num | decide)
    · intro _
      simp [go_sem, *]
    walk_nrm
    refine QuitsD.value (.int .u32 0) rfl rfl (by k_ne) ?_ ?_ ?_
    · intro _
      go_simp
      try (first | omega | (w_num; omega) | w_num | decide)
    · intro _
      simp [go_sem, *]
    walk_nrm
    refine QuitsD.value (.int .u32 0) rfl rfl (by k_ne) ?_ ?_ ?_
    · intro _
      go_simp
      try (first | omega | (w_num; omega) | w_num | decide)
    · intro _
      simp [go_sem, *]
    walk_nrm
    q_c stepG_region_end
    q_c stepG_seq
    q_c stepG_seq
    q_reg
    refine QuitsD.value (.bool true) rfl rfl (by k_ne) ?_ ?_ ?_
    · intro _
      go_simp
      try (first | omega | (w_num; omega) | w_num | decide)
    · intro _
      simp [go_sem, *]
    walk_nrm
    refine QuitsD.value (.int .i64 (-1)) rfl rfl (by k_ne) ?_ ?_ ?_
    · intro _
      go_simp
      try (first | omega | (w_num; omega) | w_num | decide)
    · intro _
      simp [go_sem, *]
    walk_nrm
    refine QuitsD.value (.bool false) rfl rfl (by k_ne) ?_ ?_ ?_
    · intro _
      go_simp
      try (first | omega | (w_num; omega) | w_num | decide)
    · intro _
      simp [go_sem, *]
    walk_nrm
    refine QuitsD.value (.bool false) rfl rfl (by k_ne) ?_ ?_ ?_
    · intro _
      go_simp
      try (first | omega | (w_num; omega) | w_num | decide)
    · intro _
      simp [go_sem, *]
    walk_nrm
    refine QuitsD.value (.bool false) rfl rfl (by k_ne) ?_ ?_ ?_
    · intro _
      go_simp
      try (first | omega | (w_num; omega) | w_num | decide)
    · intro _
      simp [go_sem, *]
    walk_nrm
    q_skip
    q_skip
    q_skip
    q_skip
    refine QuitsD.value (.bool false) rfl rfl (by k_ne) ?_ ?_ ?_
    · intro _
      go_simp
      try (first | omega | (w_num; omega) | w_num | decide)
    · intro _
      simp [go_sem, *]
    walk_nrm
    q_c stepG_region_end
    q_cond false
    q_c stepG_skip
    q_c stepG_seq
    q_c stepG_seq
    q_reg
    refine QuitsD.value (.int .i32 (v : Int)) rfl rfl (by k_ne) ?_ ?_ ?_
    · intro _
      go_simp
      try (first | omega | (w_num; omega) | w_num | decide)
    · intro _
      simp [go_sem, *]
    walk_nrm
    refine QuitsD.value (.bool false) rfl rfl (by k_ne) ?_ ?_ ?_
    · intro _
      go_simp
      try (first | omega | (w_num; omega) | w_num | decide)
    · intro _
      simp [go_sem, *]
    walk_nrm
    q_c stepG_region_end
    q_cond false
    q_c stepG_skip
    q_c stepG_seq
    q_c stepG_seq
    q_reg
    refine QuitsD.value (.int .u32 0) rfl rfl (by k_ne) ?_ ?_ ?_
    · intro _
      go_simp
      try (first | omega | (w_num; omega) | w_num | decide)
    · intro _
      simp [go_sem, *]
    walk_nrm
    refine QuitsD.value (.bool false) rfl rfl (by k_ne) ?_ ?_ ?_
    · intro _
      go_simp
      try (first | omega | (w_num; omega) | w_num | decide)
    · intro _
      simp [go_sem, *]
    walk_nrm
    refine QuitsD.value (.bool false) rfl rfl (by k_ne) ?_ ?_ ?_
    · intro _
      go_simp
      try (first | omega | (w_num; omega) | w_num | decide)
    · intro _
      simp [go_sem, *]
    walk_nrm
    q_skip
    q_skip
    refine QuitsD.value (.bool false) rfl rfl (by k_ne) ?_ ?_ ?_
    · intro _
      go_simp
      try (first | omega | (w_num; omega) | w_num | decide)
    · intro _
      simp [go_sem, *]
    walk_nrm
    refine QuitsD.value (.bool false) rfl rfl (by k_ne) ?_ ?_ ?_
    · intro _
      go_simp
      try (first | omega | (w_num; omega) | w_num | decide)
    · intro _
      simp [go_sem, *]
    walk_nrm
    q_skip
    q_skip
    q_skip
    q_skip
    refine QuitsD.value (.bool false) rfl rfl (by k_ne) ?_ ?_ ?_
    · intro _
      go_simp
      try (first | omega | (w_num; omega) | w_num | decide)
    · intro _
      simp [go_sem, *]
    walk_nrm
    q_c stepG_region_end
    q_cond false
    q_c stepG_skip
    q_c stepG_seq
    q_c stepG_seq
    q_reg
    refine QuitsD.value (.int .i32 (v : Int)) rfl rfl (by k_ne) ?_ ?_ ?_
    · intro _
      go_simp
      try (first | omega | (w_num; omega) | w_num | decide)
    · intro _
      simp [go_sem, *]
    walk_nrm
    refine QuitsD.value (.bool true) rfl rfl (by k_ne) ?_ ?_ ?_
    · intro _
      go_simp
      try (first | omega | (w_num; omega) | w_num | decide)
    · intro _
      simp [go_sem, *]
    walk_nrm
    refine QuitsD.value (.bool true) rfl rfl (by k_ne) ?_ ?_ ?_
    · intro _
      go_simp
      try (first | omega | (w_num; omega) | w_num | decide)
    · intro _
      simp [go_sem, *]
    walk_nrm
    q_skip
    q_skip
    refine QuitsD.value (.bool true) rfl rfl (by k_ne) ?_ ?_ ?_
    · intro _
      go_simp
      try (first | omega | (w_num; omega) | w_num | decide)
    · intro _
      simp [go_sem, *]
    walk_nrm
    q_c stepG_region_end
    q_cond true
    q_c stepG_ret'
    q_enable
    q_leave0 H.f_add
    q_c stepG_region_end
    q_c stepG_end
    exact QuitsD.leaveD rfl rfl H.f_done rfl hcm (quits_mono hT (by omega))
  · -- others are left, the starter waits
    have z : ((v : Nat) : Int) * KK + ((1 : Nat) : Int) = (v : Int) * KK + 1 := by simp
    rw [z]
    replace hw : WgAt L.tWg Y.Wg (w3.at d3) (((v : Nat) + 1) * KK + 1) 0 := by simpa using hw
    have hv0 : 0 < v := by omega
    have eS : IntKind.u64.wrap (((v : Nat) + 1) * KK + 1 + 18446744069414584320) = (v : Int) * KK + 1 := by rw [IntKind.wrap_u64]; simp only [KK]; omega
    obtain ⟨S, hS⟩ : ∃ S : Int, S = (v : Int) * KK + 1 := ⟨_, rfl⟩
    rw [← hS] at eS ⊢
    have a1 : S / 4294967296 = (v : Int) := by rw [hS]; simp only [KK]; omega
    have a2 : 0 ≤ S ∧ S < 9223372036854775808 := by rw [hS]; simp only [KK]; omega
    have b1 : bits .and .u64 S 2147483648 = 0 := by rw [hS]; have := st_flag v 1 (by omega) (by omega); simpa [KK] using this
    have b2 : bits .and .u64 S 2147483647 = 1 := by rw [hS]; have := st_waiters v 1 (by omega) (by omega); simpa [KK] using this
    clear hS z
    refine ⟨_, (stepG_add_atomic rfl rfl (by k_ne) rfl H.f_addU64 (x_addU64_n L) (x_addU64_b L) (x_addU64_x L) .u64 (x_addU64_f L) rfl rfl hw.cellSt (hw.thaw 0)).trans (by rw [eS]; rfl), fun hl => absurd hl.1 (by omega), fun _ => ⟨qt + 200, ?_⟩⟩
    walk_nrm
    refine QuitsD.value (.int .u64 S) rfl rfl (by k_ne) ?_ ?_ ?_
    · intro _
      go_simp
      try (first | omega | (w_num; omega) | w_num | decide)
    · intro _
      simp [go_sem, *]
    walk_nrm
    q_c stepG_region_end
    q_c stepG_ret'
    q_leave1 H.f_uAdd
    refine QuitsD.value (.int .u64 S) rfl rfl (by k_ne) ?_ ?_ ?_
    · intro _
      go_simp
      try (first | omega | (w_num; omega) | w_num | decide)
    · intro _
      simp [go_sem, *]
    walk_nrm
    q_c stepG_region_end
    q_c stepG_seq
    q_c stepG_seq
    q_reg
    refine QuitsD.value (.int .u64 S) rfl rfl (by k_ne) ?_ ?_ ?_
    · intro _
      go_simp
      try (first | omega | (w_num; omega) | w_num | decide)
    · intro _
      simp [go_sem, *]
    walk_nrm
    refine QuitsD.value (.int .u64 0) rfl rfl (by k_ne) ?_ ?_ ?_
    · intro _
      go_simp
      try (first | omega | (w_num; omega) | w_num | decide)
    · intro _
      simp [go_sem, *]
    walk_nrm
    refine QuitsD.value (.bool false) rfl rfl (by k_ne) ?_ ?_ ?_
    · intro _
      go_simp
      try (first | omega | (w_num; omega) | w_num | decide)
    · intro _
      simp [go_sem, *]
    walk_nrm
    refine QuitsD.value (.bool false) rfl rfl (by k_ne) ?_ ?_ ?_
    · intro _
      go_simp
      try (first | omega | (w_num; omega) | w_num | decide)
    · intro _
      simp [go_sem, *]
    walk_nrm
    q_skip
    q_skip
    refine QuitsD.value (.bool false) rfl rfl (by k_ne) ?_ ?_ ?_
    · intro _
      go_simp
      try (first | omega | (w_num; omega) | w_num | decide)
    · intro _
      simp [go_sem, *]
    walk_nrm
    q_c stepG_region_end
    q_cond false
    q_c stepG_skip
    q_c stepG_seq
    q_reg
    refine QuitsD.value (.int .u64 S) rfl rfl (by k_ne) ?_ ?_ ?_
    · intro _
      go_simp
      try (first | omega | (w_num; omega) | w_num | decide)
    · intro _
      simp [go_sem, *]
    walk_nrm
    refine QuitsD.value (.int .u64 (v : Int)) rfl rfl (by k_ne) ?_ ?_ ?_
    · intro _
      go_simp
      try (first | omega | (w_num; omega) | w_num | decide)
    · intro _
      simp [go_sem, *]
    walk_nrm
    refine QuitsD.value (.int .i32 (v : Int)) rfl rfl (by k_ne) ?_ ?_ ?_
    · intro _
      go_simp
      try (first | omega | (w_num; omega) | w_num | decide)
    · intro _
      simp [go_sem, *]
    walk_nrm
    refine QuitsD.value (.int .i32 (v : Int)) rfl rfl (by k_ne) ?_ ?_ ?_
    · intro _
      go_simp
      try (first | omega | (w_num; omega) | w_num | decide)
    · intro _
      simp [go_sem, *]
    walk_nrm
    q_c stepG_region_end
    q_c stepG_seq
    q_reg
    refine QuitsD.value (.int .u64 S) rfl rfl (by k_ne) ?_ ?_ ?_
    · intro _
      go_simp
      try (first | omega | (w_num; omega) | w_num | decide)
    · intro _
      simp [go_sem, *]
    walk_nrm
    refine QuitsD.value (.int .u64 1) rfl rfl (by k_ne) ?_ ?_ ?_
    · intro _
      go_simp
      try (first | omega | (w_num; omega) | w_num | decide)
    · intro _
      simp [go_sem, *]
    walk_nrm
    refine QuitsD.value (.int .u32 1) rfl rfl (by k_ne) ?_ ?_ ?_
    · intro _
      go_simp
      try (first | omega | (w_num; omega) | w_num | decide)
    · intro _
      simp [go_sem, *]
    walk_nrm
    refine QuitsD.value (.int .u32 1) rfl rfl (by k_ne) ?_ ?_ ?_
    · intro _
      go_simp
      try (first | omega | (w_num; omega) | w_num | decide)
    · intro _
      simp [go_sem, *]
    walk_nrm
    q_c stepG_region_end
    q_c stepG_seq
    q_c stepG_seq
    q_reg
    refine QuitsD.value (.bool true) rfl rfl (by k_ne) ?_ ?_ ?_
    · intro _
      go_simp
      try (first | omega | (w_num; omega) | w_num | decide)
    · intro _
      simp [go_sem, *]
    walk_nrm
    refine QuitsD.value (.int .i64 (-1)) rfl rfl (by k_ne) ?_ ?_ ?_
    · intro _
      go_simp
      try (first | omega | (w_num; omega) | w_num | decide)
    · intro _
      simp [go_sem, *]
    walk_nrm
    refine QuitsD.value (.bool false) rfl rfl (by k_ne) ?_ ?_ ?_
    · intro _
      go_simp
      try (first | omega | (w_num; omega) | w_num | decide)
    · intro _
      simp [go_sem, *]
    walk_nrm
    refine QuitsD.value (.bool false) rfl rfl (by k_ne) ?_ ?_ ?_
    · intro _
      go_simp
      try (first | omega | (w_num; omega) | w_num | decide)
    · intro _
      simp [go_sem, *]
    walk_nrm
    refine QuitsD.value (.bool false) rfl rfl (by k_ne) ?_ ?_ ?_
    · intro _
      go_simp
      try (first | omega | (w_num; omega) | w_num | decide)
    · intro _
      simp [go_sem, *]
    walk_nrm
    q_skip
    q_skip
    q_skip
    q_skip
    refine QuitsD.value (.bool false) rfl rfl (by k_ne) ?_ ?_ ?_
    · intro _
      go_simp
      try (first | omega | (w_num; omega) | w_num | decide)
    · intro _
      simp [go_sem, *]
    walk_nrm
    q_c stepG_region_end
    q_cond false
    q_c stepG_skip
    q_c stepG_seq
    q_c stepG_seq
    q_reg
    refine QuitsD.value (.int .i32 (v : Int)) rfl rfl (by k_ne) ?_ ?_ ?_
    · intro _
      go_simp
      try (first | omega | (w_num; omega) | w_num | decide)
    · intro _
      simp [go_sem, *]
    walk_nrm
    refine QuitsD.value (.bool false) rfl rfl (by k_ne) ?_ ?_ ?_
    · intro _
      go_simp
      try (first | omega | (w_num; omega) | w_num | decide)
    · intro _
      simp [go_sem, *]
    walk_nrm
    q_c stepG_region_end
    q_cond false
    q_c stepG_skip
    q_c stepG_seq
    q_c stepG_seq
    q_reg
    refine QuitsD.value (.int .u32 1) rfl rfl (by k_ne) ?_ ?_ ?_
    · intro _
      go_simp
      try (first | omega | (w_num; omega) | w_num | decide)
    · intro _
      simp [go_sem, *]
    walk_nrm
    refine QuitsD.value (.bool true) rfl rfl (by k_ne) ?_ ?_ ?_
    · intro _
      go_simp
      try (first | omega | (w_num; omega) | w_num | decide)
    · intro _
      simp [go_sem, *]
    walk_nrm
    refine QuitsD.value (.bool true) rfl rfl (by k_ne) ?_ ?_ ?_
    · intro _
      go_simp
      try (first | omega | (w_num; omega) | w_num | decide)
    · intro _
      simp [go_sem, *]
    walk_nrm
    refine QuitsD.value (.int .i64 (-1)) rfl rfl (by k_ne) ?_ ?_ ?_
    · intro _
      go_simp
      try (first | omega | (w_num; omega) | w_num | decide)
    · intro _
      simp [go_sem, *]
    walk_nrm
    refine QuitsD.value (.bool false) rfl rfl (by k_ne) ?_ ?_ ?_
    · intro _
      go_simp
      try (first | omega | (w_num; omega) | w_num | decide)
    · intro _
      simp [go_sem, *]
    walk_nrm
    refine QuitsD.value (.bool false) rfl rfl (by k_ne) ?_ ?_ ?_
    · intro _
      go_simp
      try (first | omega | (w_num; omega) | w_num | decide)
    · intro _
      simp [go_sem, *]
    walk_nrm
    refine QuitsD.value (.bool false) rfl rfl (by k_ne) ?_ ?_ ?_
    · intro _
      go_simp
      try (first | omega | (w_num; omega) | w_num | decide)
    · intro _
      simp [go_sem, *]
    walk_nrm
    q_skip
    q_skip
    q_skip
    q_skip
    refine QuitsD.value (.bool false) rfl rfl (by k_ne) ?_ ?_ ?_
    · intro _
      go_simp
      try (first | omega | (w_num; omega) | w_num | decide)
    · intro _
      simp [go_sem, *]
    walk_nrm
    q_c stepG_region_end
    q_cond false
    q_c stepG_skip
    q_c stepG_seq
    q_c stepG_seq
    q_reg
    refine QuitsD.value (.int .i32 (v : Int)) rfl rfl (by k_ne) ?_ ?_ ?_
    · intro _
      go_simp
      try (first | omega | (w_num; omega) | w_num | decide)
    · intro _
      simp [go_sem, *]
    walk_nrm
    refine QuitsD.value (.bool true) rfl rfl (by k_ne) ?_ ?_ ?_
    · intro _
      go_simp
      try (first | omega | (w_num; omega) | w_num | decide)
    · intro _
      simp [go_sem, *]
    walk_nrm
    refine QuitsD.value (.bool true) rfl rfl (by k_ne) ?_ ?_ ?_
    · intro _
      go_simp
      try (first | omega | (w_num; omega) | w_num | decide)
    · intro _
      simp [go_sem, *]
    walk_nrm
    q_skip
    q_skip
    refine QuitsD.value (.bool true) rfl rfl (by k_ne) ?_ ?_ ?_
    · intro _
      go_simp
      try (first | omega | (w_num; omega) | w_num | decide)
    · intro _
      simp [go_sem, *]
    walk_nrm
    q_c stepG_region_end
    q_cond true
    q_c stepG_ret'
    q_enable
    q_leave0 H.f_add
    q_c stepG_region_end
    q_c stepG_end
    exact QuitsD.leaveD rfl rfl H.f_done rfl hcm (quits_mono hT (by omega))
end done
end Go.Proofs.YtmbfdhekplnoaaaDoor

namespace Go.Proofs.YtmbfdhekplnoaaaDoor
open Go Go.Conc Go.RowKit Go.Conc.Lib Go.ConcR.Gen
open Go.ConcR (KK WgAt stA smA)

noncomputable def bot : Frame := { (default : Frame) with fn := Tryd.prog.funcs.size, defers := [], mode := .panicking [goexitEntry] }
def wkCall (wg b7 b8 b5 : Nat) : Deferred := { target := .fn (.func 26) #[.pointer (some ⟨wg, 0, none⟩), .pointer (some ⟨b7, 0, none⟩), .pointer (some ⟨b8, 0, none⟩), .pointer (some ⟨b5, 0, none⟩)], args := #[] }
theorem wk_born (wg b7 b8 b5 : Nat) (w : World) : stepG Tryd.prog false (born Tryd.prog (wkCall wg b7 b8 b5)) w =
    .go (G ((baseD 26).at ⟨#[.pointer (some ⟨wg, 0, none⟩), .pointer (some ⟨b7, 0, none⟩), .pointer (some ⟨b8, 0, none⟩), .pointer (some ⟨b5, 0, none⟩), undef, undef, undef, undef], []⟩ [.code (Tryd.f26.body.getD .skip)]) [bot]) w #[] := by
  simp [born, wkCall, stepG, unwind, callDeferred, invoke, callFunc, Tryd.func26, Tryd.f26, seen, GStep.after, G, Frame.enter, Frame.at, baseD, bot]
theorem wk_tail (T : Array Value) : QuitsD Tryd.prog 2 0 (G { (baseD 26).at ⟨T, []⟩ [] with mode := .returning } [bot]) := by
  refine QuitsD.ctl (g' := G bot []) rfl (fun w => ?_) ?_
  · simp [G, stepG, unwind, doReturn, results, Frame.at, baseD, bot, Tryd.func26, Tryd.f26, seen, GStep.after, goexitEntry]
  refine QuitsD.ctl (g' := { G bot [] with status := .finished }) rfl (fun w => ?_) ⟨rfl, rfl⟩
  simp [G, stepG, unwind, bot, goexitEntry, Frame.catches]
  rfl
theorem nm_work : (Tryd.f28.name == "runtime.NumGoroutine") = false := by kernel_rfl
noncomputable def wkOps : Array Oper := match Tryd.f26.body with
  | some (.seq _ (.region _ ops _)) => ops
  | _ => #[]
noncomputable def wkFrom (wg b7 b8 b5 cn cb : Nat) (fv : Value) : Frame := (baseD 26).at ⟨#[.pointer (some ⟨wg, 0, none⟩), .pointer (some ⟨b7, 0, none⟩), .pointer (some ⟨b8, 0, none⟩), .pointer (some ⟨b5, 0, none⟩), .chan (some cn), .chan (some cb), fv, undef], [dcall 27 #[.pointer (some ⟨wg, 0, none⟩)]]⟩ [.inRegion wkOps [3]]
section born
variable {Y : Yard} {Env : World → Prop} {fv : Value} {A : Nat → Value → Value → (Nat → Prop) → World → Prop}
set_option maxRecDepth 100000 in
theorem wk_over (hP : Y.F.P = Tryd.prog) (S : Y.Syncs lk) {b7 b8 b5 : Nat} {O : Nat → Prop} {T : Array Value} (W : World) :
    GoesJ Y.F.P false Y.F.J Y.F.Sh (YR0 Y) O (G ((base 28).at ⟨T, []⟩ []) [wkFrom Y.Wg b7 b8 b5 Y.F.cn Y.F.cb fv, bot]) W := by
  refine GoesJ.bindJ (S1 := fun O' g W => O' = O ∧ ∃ T, g = G ((baseD 27).at ⟨#[.pointer (some ⟨Y.Wg, 0, none⟩), undef, undef, undef], []⟩ [.code ((doneFn lk).body.getD .skip)]) [{ (baseD 26).at ⟨T, []⟩ [] with mode := .returning }, bot]) (fun O' g W hj q => ?_) (GoesJ.of (J := Y.F.J) ?_)
  · obtain ⟨rfl, T, rfl⟩ := q
    exact done_walk S rfl (by rw [hP]; exact wk_tail T) W ((S.j W).1 hj)
  · rw [hP]
    unfold wkFrom
    simp only [wkOps, Tryd.f26]
    refine Walks.idle rfl (fun _ => stepG_end) ?_
    refine walks_goes rfl (fun _ _ => ?_)
    refine goes_leave0 rfl rfl Tryd.func28 rfl ⟨_, Guar.refl _ _ _, ?_⟩
    walk_nrm
    refine Walks.idle rfl (fun _ => stepG_region_end) ?_
    refine Walks.idle rfl (fun _ => stepG_end) ?_
    refine walks_goes rfl (fun _ _ => ?_)
    rw [stepG_unwind_enter rfl Tryd.func27 (nm_done lk) rfl]
    simp only [goes_go]
    refine ⟨_, Guar.refl _ _ _, ?_⟩
    exact Walks.stop fun _ _ => ⟨rfl, #[.pointer (some ⟨Y.Wg, 0, none⟩), .pointer (some ⟨b7, 0, none⟩), .pointer (some ⟨b8, 0, none⟩), .pointer (some ⟨b5, 0, none⟩), .chan (some Y.F.cn), .chan (some Y.F.cb), fv, .tuple #[]], rfl⟩
set_option maxRecDepth 100000 in
theorem wk_goes (K : WkAsk Y.F Env fv A) (hP : Y.F.P = Tryd.prog) (S : Y.Syncs lk) (hDone : Y.F.Done = YR0 Y) (hnum : ∀ i : Nat, Y.F.num i = .int .i64 i) {b7 b8 b5 : Nat} (s7 : Y.F.Sh b7) (s8 : Y.F.Sh b8) (s5 : Y.F.Sh b5)
    (hcell : ∀ W, Env W → W.cell? ⟨b7, 0, none⟩ = some (.chan (some Y.F.cn)) ∧ W.cell? ⟨b8, 0, none⟩ = some (.chan (some Y.F.cb)) ∧ W.cell? ⟨b5, 0, none⟩ = some fv) {O : Nat → Prop} (n : Nat) (W : World) (hF : WkFacts Env Y.F.Sh O W) :
    GoesJ Y.F.P false Y.F.J Y.F.Sh (KRecv Y.F n) O (born Y.F.P (wkCall Y.Wg b7 b8 b5)) W := by
  refine GoesJ.bindJ (S1 := fun O' g W => O' = O ∧ WkFacts Env Y.F.Sh O W ∧ g = wkHead (wkT Y.F.cn Y.F.cb fv #[]) [wkFrom Y.Wg b7 b8 b5 Y.F.cn Y.F.cb fv, bot]) (fun O' g W _ q => ?_) (GoesJ.of (J := Y.F.J) ?_)
  · obtain ⟨rfl, hF, rfl⟩ := q
    exact work_recv K hP hnum (fun x W _ => by rw [hDone]; exact wk_over hP S W) n #[] W hF
  · rw [hP]
    refine walks_goes rfl (fun _ hr => ?_)
    replace hF := hF.rely K hr
    clear hr
    rw [wk_born]
    simp only [goes_go]
    refine ⟨_, Guar.refl _ _ _, ?_⟩
    simp only [Tryd.f26, Option.getD_some]
    refine Walks.idle rfl (fun _ => stepG_seq) ?_
    refine Walks.idle rfl (fun _ => stepG_region) ?_
    simp only [List.size_toArray, List.length_cons, List.length_nil, Nat.zero_add, List.range, List.range.loop]
    refine walks_goes rfl (fun _ hr => ?_)
    replace hF := hF.rely K hr
    clear hr
    rw [stepG_defer rfl rfl (by k_ne) rfl]
    simp only [goes_go]
    refine ⟨_, Guar.refl _ _ _, ?_⟩
    walk_nrm
    refine Walks.idle rfl (fun _ => stepG_region_end) ?_
    refine Walks.idle rfl (fun _ => stepG_region) ?_
    simp only [List.size_toArray, List.length_cons, List.length_nil, Nat.reduceAdd, Nat.zero_add, List.range, List.range.loop]
    refine walks_goes rfl (fun _ hr => ?_)
    replace hF := hF.rely K hr
    clear hr
    obtain ⟨c7, c8, c5⟩ := hcell _ hF.env
    refine goes_oper_k rfl rfl (by k_ne) (fun K' hK => ?_)
    go_simp
    refine hK _ _ ⟨_, guar_reads (fun e he => ?_), ?_⟩
    · have hm := mem_listed he
      simp [go_sem, *] at hm
      subst hm
      exact ⟨_, rfl, .inr s7⟩
    clear hK K' c7 c8 c5
    refine walks_goes rfl (fun _ hr => ?_)
    replace hF := hF.rely K hr
    clear hr
    obtain ⟨c7, c8, c5⟩ := hcell _ hF.env
    refine goes_oper_k rfl rfl (by k_ne) (fun K' hK => ?_)
    go_simp
    refine hK _ _ ⟨_, guar_reads (fun e he => ?_), ?_⟩
    · have hm := mem_listed he
      simp [go_sem, *] at hm
      subst hm
      exact ⟨_, rfl, .inr s8⟩
    clear hK K' c7 c8 c5
    refine walks_goes rfl (fun _ hr => ?_)
    replace hF := hF.rely K hr
    clear hr
    obtain ⟨c7, c8, c5⟩ := hcell _ hF.env
    refine goes_oper_k rfl rfl (by k_ne) (fun K' hK => ?_)
    go_simp
    refine hK _ _ ⟨_, guar_reads (fun e he => ?_), ?_⟩
    · have hm := mem_listed he
      simp [go_sem, *] at hm
      subst hm
      exact ⟨_, rfl, .inr s5⟩
    clear hK K' c7 c8 c5
    refine walks_goes rfl (fun _ hr => ?_)
    replace hF := hF.rely K hr
    clear hr
    refine goes_call rfl rfl (by k_ne) rfl Tryd.func28 nm_work rfl ⟨_, Guar.refl _ _ _, ?_⟩
    walk_nrmf Tryd.f28
    refine Walks.idle rfl (fun _ => stepG_seq) ?_
    refine Walks.idle rfl (fun _ => stepG_region) ?_
    simp only [List.size_toArray, List.length_cons, List.length_nil, Nat.zero_add, List.range, List.range.loop]
    refine walks_goes rfl (fun _ hr => ?_)
    replace hF := hF.rely K hr
    clear hr
    refine goes_oper_k rfl rfl (by k_ne) (fun K' hK => ?_)
    go_simp
    refine hK _ _ ⟨_, guar_none (fun e he => by have hm := mem_listed he; simp [go_sem, *] at hm), ?_⟩
    clear hK K'
    refine Walks.idle rfl (fun _ => stepG_region_end) ?_
    refine Walks.idle rfl (fun _ => stepG_block) ?_
    refine Walks.idle rfl (fun _ => stepG_loop) ?_
    refine Walks.stop fun _ hr => ⟨rfl, hF.rely K hr, ?_⟩
    unfold wkHead wkFrom
    simp [wkC, loopOf, Tryd.f28, wkT, wkOps, Tryd.f26]
end born
end Go.Proofs.YtmbfdhekplnoaaaDoor

namespace Go.Proofs.YtmbfdhekplnoaaaDoor
open Go Go.Conc Go.RowKit Go.Conc.Lib Go.ConcR.Gen Go.ConcN.Gen
open Go.ConcN (st_flag st_waiters)
open Go.ConcR (KK wgBlock WgAt stA smA rd wr mk Payload DC0)

section add
variable {L : WgLink} {Y : Yard} {HF : (Nat → Prop) → World → Prop}
set_option maxRecDepth 100000 in
set_option maxHeartbeats 16000000 in
theorem add_walk (S : Y.Syncs L) (hrely : ∀ O W W1, RelyJ Y.F.J O Y.F.Sh W W1 → HF O W → HF O W1) (hat : ∀ O W d, HF O W → HF O (W.at d)) (hset : ∀ O W (a : Addr) v, a.block = Y.Wg → HF O W → HF O (W.setCell a v)) {O : Nat → Prop} {s : Nat} (hs : s < 2147483646) {Nx : Stp} {b₀ : Frame} {a₀ : Act} {ops₀ : Array Oper} {i₀ : Nat} {rest₀ : List Nat} {k₀ : List Item} {cs : List Frame} (w : World) (hK : HF O w ∧ Live L.tWg Y.Wg w)
    (hT : ∀ w, HF O w → Live L.tWg Y.Wg w → Y.mn (HGo Y Nx) O (G (b₀.at (a₀.put ((ops₀[i₀]?).bind (·.dst)) (.tuple #[])) (.inRegion ops₀ rest₀ :: k₀)) cs) w) :
    Y.mn (HDis Y s Nx) O (G (Frame.enter Y.F.P L.add #[.pointer (some ⟨Y.Wg, 0, none⟩), .int .i64 1] .normal) (b₀.at a₀ (.inRegion ops₀ (i₀ :: rest₀) :: k₀) :: cs)) w := by
  obtain ⟨H, hty, hj⟩ := S
  have e : Frame.enter Y.F.P L.add #[.pointer (some ⟨Y.Wg, 0, none⟩), .int .i64 1] .normal = (base L.add).at ⟨#[.pointer (some ⟨Y.Wg, 0, none⟩), .int .i64 1] ++ Array.replicate ((addFn L).ntmps - 2) undef, []⟩ [.code ((addFn L).body.getD .skip)] := by
    simp [Frame.enter, Frame.at, H.f_add, base, addFn]
  rw [e]
  clear e
  lib_facts
  have hR := fun (W W1 : World) (q : RelyJ Y.F.J O Y.F.Sh W W1) (h : HF O W ∧ Live L.tWg Y.Wg W) => (⟨hrely O W W1 q h.1, (hj W1).1 q.j⟩ : HF O W1 ∧ Live L.tWg Y.Wg W1)
  refine mn_of (n := 40) (S := fun g W => HDis Y s Nx O g W) hR (fun _ _ q => q) ?_
  walk_nrmf addFn
  u_c stepG_seq imp_rely hK
  u_cond true imp_rely hK
  u_c stepG_seq imp_rely hK
  u_c stepG_seq imp_rely hK
  u_reg imp_rely hK
  u_op imp_rely hK
  u_op imp_rely hK
  u_c stepG_region_end imp_rely hK
  u_cond false imp_rely hK
  u_c stepG_skip imp_rely hK
  u_c stepG_seq imp_rely hK
  u_reg imp_rely hK
  refine Goes.stop (fun w1 h1 => ?_)
  replace hK := imp_rely hK h1
  clear h1
  refine ⟨rfl, fun d => ⟨_, stepG_mark0 .disable (by simp) rfl rfl (by k_ne) rfl H.f_disable (x_disable_n L) (x_disable_b L) (x_disable_x L) (x_disable_f L), ?_⟩⟩
  refine mn_of (n := 60) (S := fun g W => HAdd Y s Nx O g W) hR (fun _ _ q => q) ?_
  replace hK : HF O (w1.at d) ∧ Live L.tWg Y.Wg (w1.at d) := ⟨hat O w1 d hK.1, hK.2⟩
  walk_nrm
  u_c stepG_region_end imp_rely hK
  u_reg imp_rely hK
  u_defer imp_rely hK
  u_c stepG_region_end imp_rely hK
  u_c stepG_seq imp_rely hK
  u_reg imp_rely hK
  u_op imp_rely hK
  u_c stepG_region_end imp_rely hK
  u_c stepG_seq imp_rely hK
  u_c stepG_seq imp_rely hK
  u_reg imp_rely hK
  u_bub imp_rely hK
  u_c stepG_region_end imp_rely hK
  u_cond false imp_rely hK
  u_c stepG_skip imp_rely hK
  u_c stepG_seq imp_rely hK
  u_reg imp_rely hK
  u_op imp_rely hK
  u_op imp_rely hK
  u_op imp_rely hK
  u_op imp_rely hK
  u_op imp_rely hK
  u_op imp_rely hK
  u_call H.f_uAdd (nm_uAdd L) uAddFn imp_rely hK
  u_c stepG_seq imp_rely hK
  u_reg imp_rely hK
  u_op imp_rely hK
  u_c stepG_region_end imp_rely hK
  u_c stepG_seq imp_rely hK
  u_reg imp_rely hK
  u_op imp_rely hK
  u_op imp_rely hK
  u_op imp_rely hK
  u_op imp_rely hK
  refine Goes.stop (fun w2 h2 => ?_)
  replace hK := imp_rely hK h2
  clear h2
  refine ⟨rfl, fun d2 hw => ?_⟩
  replace hw : WgAt L.tWg Y.Wg (w2.at d2) ((s : Nat) * KK) 0 := by rw [← hty]; exact hw
  rcases Nat.eq_zero_or_pos s with rfl | hsp
  · replace hw : WgAt L.tWg Y.Wg (w2.at d2) 0 0 := by simpa using hw
    have z : (((0 + 1 : Nat) : Int)) * KK = KK := by simp
    rw [z]
    have e0 : IntKind.u64.wrap (0 + 4294967296) = KK := by decide
    refine ⟨_, (stepG_add_atomic rfl rfl (by k_ne) rfl H.f_addU64 (x_addU64_n L) (x_addU64_b L) (x_addU64_x L) .u64 (x_addU64_f L) rfl rfl hw.cellSt (hw.thaw 0)).trans (by rw [e0]; rfl), fun _ => ?_, fun q => absurd rfl q⟩
    replace hK : HF O ((w2.at d2).setCell (stA Y.Wg) (.int .u64 KK)) ∧ Live L.tWg Y.Wg ((w2.at d2).setCell (stA Y.Wg) (.int .u64 KK)) := ⟨hset O _ _ _ rfl (hat O w2 d2 hK.1), ⟨_, _, hw.setSt _⟩⟩
    clear hw
    refine mn_of (n := 110) (S := fun g W => HRd Y Nx O g W) hR (fun _ _ q => q) ?_
    simp only [KK] at hK ⊢
    walk_nrm
    u_op imp_rely hK
    u_c stepG_region_end imp_rely hK
    u_c stepG_ret' imp_rely hK
    u_leave1 H.f_uAdd imp_rely hK
    u_op imp_rely hK
    u_c stepG_region_end imp_rely hK
    u_c stepG_seq imp_rely hK
    u_c stepG_seq imp_rely hK
    u_reg imp_rely hK
    u_op imp_rely hK
    u_op imp_rely hK
    u_op imp_rely hK
    u_op imp_rely hK
    u_skip imp_rely hK
    u_skip imp_rely hK
    u_op imp_rely hK
    u_c stepG_region_end imp_rely hK
    u_cond false imp_rely hK
    u_c stepG_skip imp_rely hK
    u_c stepG_seq imp_rely hK
    u_reg imp_rely hK
    u_op imp_rely hK
    u_op imp_rely hK
    u_op imp_rely hK
    u_op imp_rely hK
    u_c stepG_region_end imp_rely hK
    u_c stepG_seq imp_rely hK
    u_reg imp_rely hK
    u_op imp_rely hK
    u_op imp_rely hK
    u_op imp_rely hK
    u_op imp_rely hK
    u_c stepG_region_end imp_rely hK
    u_c stepG_seq imp_rely hK
    u_c stepG_seq imp_rely hK
    u_reg imp_rely hK
    u_op imp_rely hK
    u_op imp_rely hK
    u_op imp_rely hK
    u_op imp_rely hK
    u_op imp_rely hK
    u_op imp_rely hK
    u_op imp_rely hK
    u_op imp_rely hK
    u_op imp_rely hK
    u_op imp_rely hK
    u_c stepG_region_end imp_rely hK
    u_cond true imp_rely hK
    u_reg imp_rely hK
    u_op imp_rely hK
    u_op imp_rely hK
    u_op imp_rely hK
    u_in imp_rely hK
    refine goes_oper_k rfl rfl (by k_ne) (fun Kx hKx => ?_)
    have hcv := run_convert_to_unsafe (P := Y.F.P) H.underlying_tPU32 H.underlying_tUP H.room_tU32 (live_cell1 hK.2).choose_spec
    have hce := fun es => events_convert_to_unsafe (P := Y.F.P) H.underlying_tPU32 H.underlying_tUP H.room_tU32 (live_cell1 hK.2).choose_spec es
    go_simp
    refine hKx _ _ ⟨?_, ?_⟩
    · u_none
      intro ex hex
      have hmx := mem_listed hex
      simp [go_sem, hce] at hmx
    clear hKx Kx hcv hce
    refine Goes.stop (fun w3 h3 => ?_)
    replace hK := imp_rely hK h3
    clear h3
    refine ⟨rfl, fun d3 => ⟨_, stepG_markAt .read (by simp) rfl rfl (by k_ne) rfl H.f_raceRead (x_raceRead_n L) (x_raceRead_b L) (x_raceRead_x L) (x_raceRead_f L) (ad := ⟨Y.Wg, 1, none⟩) (by simp [Act.eval]), ?_⟩⟩
    replace hK : HF O (w3.at d3) ∧ Live L.tWg Y.Wg (w3.at d3) := ⟨hat O w3 d3 hK.1, hK.2⟩
    refine mn_of (n := 60) (S := fun g W => HEn Y Nx O g W) hR (fun _ _ q => q) ?_
    walk_nrm
    u_c stepG_region_end imp_rely hK
    u_c stepG_seq imp_rely hK
    u_c stepG_seq imp_rely hK
    u_reg imp_rely hK
    u_op imp_rely hK
    u_op imp_rely hK
    u_c stepG_region_end imp_rely hK
    u_cond false imp_rely hK
    u_c stepG_skip imp_rely hK
    u_c stepG_seq imp_rely hK
    u_c stepG_seq imp_rely hK
    u_reg imp_rely hK
    u_op imp_rely hK
    u_op imp_rely hK
    u_op imp_rely hK
    u_skip imp_rely hK
    u_skip imp_rely hK
    u_op imp_rely hK
    u_op imp_rely hK
    u_skip imp_rely hK
    u_skip imp_rely hK
    u_skip imp_rely hK
    u_skip imp_rely hK
    u_op imp_rely hK
    u_c stepG_region_end imp_rely hK
    u_cond false imp_rely hK
    u_c stepG_skip imp_rely hK
    u_c stepG_seq imp_rely hK
    u_c stepG_seq imp_rely hK
    u_reg imp_rely hK
    u_op imp_rely hK
    u_op imp_rely hK
    u_op imp_rely hK
    u_skip imp_rely hK
    u_skip imp_rely hK
    u_op imp_rely hK
    u_c stepG_region_end imp_rely hK
    u_cond true imp_rely hK
    u_c stepG_ret' imp_rely hK
    refine Goes.stop (fun w4 h4 => ?_)
    replace hK := imp_rely hK h4
    clear h4
    refine ⟨rfl, fun d4 => ⟨_, stepG_unwind_entry (v := .tuple #[]) (evs := #[mk .enable]) rfl H.f_enable (x_enable_n L) (x_enable_b L) (x_enable_x L) (x_enable_f L) (by simp [Extern.Race.none_]) (by simp [mk]) (by simp [mk]), ?_⟩⟩
    replace hK : HF O (w4.at d4) ∧ Live L.tWg Y.Wg (w4.at d4) := ⟨hat O w4 d4 hK.1, hK.2⟩
    refine mn_then (n := 2) (Lv := fun w => HF O w ∧ Live L.tWg Y.Wg w) hR (fun w h => hT w h.1 h.2) ?_
    u_leave0 H.f_add imp_rely hK
    exact Goes.stop (fun w5 h5 => ⟨rfl, imp_rely hK h5⟩)
  · obtain ⟨V, hV⟩ : ∃ V : Int, V = (s : Int) + 1 := ⟨_, rfl⟩
    obtain ⟨S, hS⟩ : ∃ S : Int, S = V * KK := ⟨_, rfl⟩
    have eS : IntKind.u64.wrap ((s : Int) * KK + 4294967296) = S := by rw [IntKind.wrap_u64, hS, hV]; simp only [KK]; omega
    have z : (((s + 1 : Nat) : Int)) * KK = S := by rw [hS, hV]; simp
    rw [z]
    have a1 : S / 4294967296 = V := by rw [hS]; simp only [KK]; omega
    have b1 : bits .and .u64 S 2147483648 = 0 := by rw [hS, hV]; have := st_flag (s + 1) 0 (by omega) (by omega); simpa [KK] using this
    have b2 : bits .and .u64 S 2147483647 = 0 := by rw [hS, hV]; have := st_waiters (s + 1) 0 (by omega) (by omega); simpa [KK] using this
    have c1 : IntKind.i32.wrap V = V := by rw [IntKind.wrap_i32]; omega
    have hV1 : 1 < V := by omega
    have hV2 : V < 2147483648 := by omega
    have q1 : (V == 1) = false := by simp; omega
    have q2 : decide (V = 1) = false := decide_eq_false (by omega)
    have q3 : decide (V < 0) = false := decide_eq_false (by omega)
    have q4 : decide (0 < V) = true := decide_eq_true (by omega)
    have q5 : (V == 0) = false := by simp; omega
    have q6 : decide (V = 0) = false := decide_eq_false (by omega)
    refine ⟨_, (stepG_add_atomic rfl rfl (by k_ne) rfl H.f_addU64 (x_addU64_n L) (x_addU64_b L) (x_addU64_x L) .u64 (x_addU64_f L) rfl rfl hw.cellSt (hw.thaw 0)).trans (by rw [eS]; rfl), fun q => absurd q (by omega), fun _ => ?_⟩
    replace hK : HF O ((w2.at d2).setCell (stA Y.Wg) (.int .u64 S)) ∧ Live L.tWg Y.Wg ((w2.at d2).setCell (stA Y.Wg) (.int .u64 S)) := ⟨hset O _ _ _ rfl (hat O w2 d2 hK.1), ⟨_, _, hw.setSt _⟩⟩
    clear hw hS hV eS z
    refine mn_of (n := 110) (S := fun g W => HEn Y Nx O g W) hR (fun _ _ q => q) ?_
    walk_nrm
    u_op imp_rely hK
    u_c stepG_region_end imp_rely hK
    u_c stepG_ret' imp_rely hK
    u_leave1 H.f_uAdd imp_rely hK
    u_op imp_rely hK
    u_c stepG_region_end imp_rely hK
    u_c stepG_seq imp_rely hK
    u_c stepG_seq imp_rely hK
    u_reg imp_rely hK
    u_op imp_rely hK
    u_op imp_rely hK
    u_op imp_rely hK
    u_op imp_rely hK
    u_skip imp_rely hK
    u_skip imp_rely hK
    u_op imp_rely hK
    u_c stepG_region_end imp_rely hK
    u_cnd false imp_rely hK
    u_c stepG_skip imp_rely hK
    u_c stepG_seq imp_rely hK
    u_reg imp_rely hK
    u_op imp_rely hK
    u_op imp_rely hK
    u_op imp_rely hK
    u_op imp_rely hK
    u_c stepG_region_end imp_rely hK
    u_c stepG_seq imp_rely hK
    u_reg imp_rely hK
    u_op imp_rely hK
    u_op imp_rely hK
    u_op imp_rely hK
    u_op imp_rely hK
    u_c stepG_region_end imp_rely hK
    u_c stepG_seq imp_rely hK
    u_c stepG_seq imp_rely hK
    u_reg imp_rely hK
    u_op imp_rely hK
    u_op imp_rely hK
    u_op imp_rely hK
    u_op imp_rely hK
    u_op imp_rely hK
    u_op imp_rely hK
    u_op imp_rely hK
    u_op imp_rely hK
    u_op imp_rely hK
    u_op imp_rely hK
    u_c stepG_region_end imp_rely hK
    u_cnd false imp_rely hK
    u_c stepG_skip imp_rely hK
    u_c stepG_seq imp_rely hK
    u_c stepG_seq imp_rely hK
    u_reg imp_rely hK
    u_op imp_rely hK
    u_op imp_rely hK
    u_c stepG_region_end imp_rely hK
    u_cnd false imp_rely hK
    u_c stepG_skip imp_rely hK
    u_c stepG_seq imp_rely hK
    u_c stepG_seq imp_rely hK
    u_reg imp_rely hK
    u_op imp_rely hK
    u_op imp_rely hK
    u_op imp_rely hK
    u_skip imp_rely hK
    u_skip imp_rely hK
    u_op imp_rely hK
    u_op imp_rely hK
    u_skip imp_rely hK
    u_skip imp_rely hK
    u_skip imp_rely hK
    u_skip imp_rely hK
    u_op imp_rely hK
    u_c stepG_region_end imp_rely hK
    u_cnd false imp_rely hK
    u_c stepG_skip imp_rely hK
    u_c stepG_seq imp_rely hK
    u_c stepG_seq imp_rely hK
    u_reg imp_rely hK
    u_op imp_rely hK
    u_op imp_rely hK
    u_op imp_rely hK
    u_skip imp_rely hK
    u_skip imp_rely hK
    u_op imp_rely hK
    u_c stepG_region_end imp_rely hK
    u_cnd true imp_rely hK
    u_c stepG_ret' imp_rely hK
    refine Goes.stop (fun w4 h4 => ?_)
    replace hK := imp_rely hK h4
    clear h4
    refine ⟨rfl, fun d4 => ⟨_, stepG_unwind_entry (v := .tuple #[]) (evs := #[mk .enable]) rfl H.f_enable (x_enable_n L) (x_enable_b L) (x_enable_x L) (x_enable_f L) (by simp [Extern.Race.none_]) (by simp [mk]) (by simp [mk]), ?_⟩⟩
    replace hK : HF O (w4.at d4) ∧ Live L.tWg Y.Wg (w4.at d4) := ⟨hat O w4 d4 hK.1, hK.2⟩
    refine mn_then (n := 2) (Lv := fun w => HF O w ∧ Live L.tWg Y.Wg w) hR (fun w h => hT w h.1 h.2) ?_
    u_leave0 H.f_add imp_rely hK
    exact Goes.stop (fun w5 h5 => ⟨rfl, imp_rely hK h5⟩)
end add
end Go.Proofs.YtmbfdhekplnoaaaDoor
