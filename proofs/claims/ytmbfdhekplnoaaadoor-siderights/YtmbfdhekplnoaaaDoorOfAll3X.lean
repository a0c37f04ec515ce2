/-
  sync.WaitGroup in company: Wait, of the starter.
  ALL ARE BACK: the list is returned, the numbers are closed, the starter waits.
  THE STARTER HIRES, AND HANDS OUT.
-/
import Derived.Test.YtmbfdhekplnoaaaDoorSyncLinkX
import Derived.Conc.WgGenN3
import Derived.Test.YtmbfdhekplnoaaaDoorSyncAddX
import Derived.Conc.TokenWalk
namespace Go.Proofs.YtmbfdhekplnoaaaDoor
open Go Go.Conc Go.RowKit Go.Conc.Lib Go.ConcR.Gen Go.ConcN.Gen
open Go.ConcN (st_flag st_waiters)
open Go.ConcR (KK wgBlock WgAt stA smA rd wr mk Payload DC0)

def WaitAt (L : WgLink) (Wg : Nat) (c : Frame) (cs : List Frame) (HF : (Nat → Prop) → World → Prop) (O : Nat → Prop) (g : Goroutine) (w : World) : Prop :=
  HF O w ∧ Live L.tWg Wg w ∧ ∃ T : Array Value, g = G ((base L.wait).at ⟨T, []⟩ [.code (L7 L), .inLoop (L7 L), .inBlock 0]) (c :: cs) ∧ T.size = 84 ∧ T[0]? = some (.pointer (some ⟨Wg, 0, none⟩))
section wait
variable {L : WgLink} {Y : Yard} {HF : (Nat → Prop) → World → Prop}
set_option maxRecDepth 100000 in
set_option maxHeartbeats 16000000 in
theorem wait_round (S : Y.Syncs L) (hrely : ∀ O W W1, RelyJ Y.F.J O Y.F.Sh W W1 → HF O W → HF O W1) (hat : ∀ O W d, HF O W → HF O (W.at d)) (hset : ∀ O W (a : Addr) v, a.block = Y.Wg → HF O W → HF O (W.setCell a v)) {b₀ : Frame} {a₀ : Act} {ops₀ : Array Oper} {i₀ : Nat} {rest₀ : List Nat} {k₀ : List Item} {cs : List Frame}
    (hanch : ∀ O g W, WaitAt L Y.Wg (b₀.at a₀ (.inRegion ops₀ (i₀ :: rest₀) :: k₀)) cs HF O g W → Y.Anch O g W)
    (hT : ∀ O w, HF O w → Live L.tWg Y.Wg w → Y.mn Y.After O (G (b₀.at (a₀.put ((ops₀[i₀]?).bind (·.dst)) (.tuple #[])) (.inRegion ops₀ rest₀ :: k₀)) cs) w) {O : Nat → Prop} (g : Goroutine) (w : World) (h : WaitAt L Y.Wg (b₀.at a₀ (.inRegion ops₀ (i₀ :: rest₀) :: k₀)) cs HF O g w) : Y.mn (YW1 Y) O g w := by
  obtain ⟨H, hty, hj⟩ := S
  obtain ⟨hf, hl, T, rfl, hT84, t0⟩ := h
  have hK : HF O w ∧ Live L.tWg Y.Wg w := ⟨hf, hl⟩
  clear hf hl
  lib_facts
  have hR := fun (W W1 : World) (q : RelyJ Y.F.J O Y.F.Sh W W1) (h : HF O W ∧ Live L.tWg Y.Wg W) => (⟨hrely O W W1 q h.1, (hj W1).1 q.j⟩ : HF O W1 ∧ Live L.tWg Y.Wg W1)
  obtain ⟨v0, v1, v2, v3, v4, v5, v6, v7, v8, v9, v10, v11, v12, v13, v14, v15, v16, v17, v18, v19, v20, v21, v22, v23, v24, v25, v26, v27, v28, v29, v30, v31, v32, v33, v34, v35, v36, v37, v38, v39, v40, v41, v42, v43, v44, v45, v46, v47, v48, v49, v50, v51, v52, v53, v54, v55, v56, v57, v58, v59, v60, v61, v62, v63, v64, v65, v66, v67, v68, v69, v70, v71, v72, v73, v74, v75, v76, v77, v78, v79, v80, v81, v82, v83, rfl⟩ := array84 T hT84
  simp only [List.getElem?_toArray, List.getElem?_cons_zero, Option.some.injEq] at t0
  subst t0
  refine mn_of (n := 40) (S := fun g W => YW1 Y O g W) hR (fun _ _ q => q) ?_
  simp only [L7, body_wait, waitFn, Option.getD_some]
  u_c stepG_block imp_rely hK
  u_c stepG_seq imp_rely hK
  u_reg imp_rely hK
  u_op imp_rely hK
  u_op imp_rely hK
  u_op imp_rely hK
  u_call H.f_uLoad (nm_uLoad L) uLoadFn imp_rely hK
  u_c stepG_seq imp_rely hK
  u_reg imp_rely hK
  u_op imp_rely hK
  u_c stepG_region_end imp_rely hK
  u_c stepG_seq imp_rely hK
  u_reg imp_rely hK
  u_op imp_rely hK
  u_op imp_rely hK
  u_op imp_rely hK
  refine Goes.stop (fun w1 h1 => ?_)
  replace hK := imp_rely hK h1
  clear h1
  refine ⟨rfl, fun d1 v hv hw => ?_⟩
  replace hw : WgAt L.tWg Y.Wg (w1.at d1) ((v : Nat) * KK) 0 := by rw [← hty]; exact hw
  rcases Nat.eq_zero_or_pos v with rfl | hvp
  · -- nobody is counted
    replace hw : WgAt L.tWg Y.Wg (w1.at d1) 0 0 := by simpa using hw
    refine ⟨_, stepG_load_atomic (v := 0) rfl rfl (by k_ne) rfl H.f_loadU64 (x_loadU64_n L) (x_loadU64_b L) (x_loadU64_x L) .u64 (x_loadU64_f L) rfl hw.cellSt, fun _ => ?_, fun h => absurd rfl h⟩
    replace hK : HF O (w1.at d1) ∧ Live L.tWg Y.Wg (w1.at d1) := ⟨hat O w1 d1 hK.1, hK.2⟩
    clear hw
    refine mn_of (n := 60) (S := fun g W => YKe Y O g W) hR (fun _ _ q => q) ?_
    walk_nrm
    u_op imp_rely hK
    u_c stepG_region_end imp_rely hK
    u_c stepG_ret' imp_rely hK
    u_leave1 H.f_uLoad imp_rely hK
    u_op imp_rely hK
    u_c stepG_region_end imp_rely hK
    u_c stepG_seq imp_rely hK
    u_reg imp_rely hK
    u_op imp_rely hK
    u_op imp_rely hK
    u_op imp_rely hK
    u_op imp_rely hK
    u_c stepG_region_end imp_rely hK
    u_c stepG_seq imp_rely hK
    u_reg imp_rely hK
    u_op imp_rely hK
    u_op imp_rely hK
    u_op imp_rely hK
    u_op imp_rely hK
    u_c stepG_region_end imp_rely hK
    u_c stepG_seq imp_rely hK
    u_c stepG_seq imp_rely hK
    u_reg imp_rely hK
    u_op imp_rely hK
    u_op imp_rely hK
    u_c stepG_region_end imp_rely hK
    u_cond true imp_rely hK
    u_c stepG_seq imp_rely hK
    u_cond true imp_rely hK
    u_c stepG_seq imp_rely hK
    u_reg imp_rely hK
    refine Goes.stop (fun w5 h5 => ?_)
    replace hK := imp_rely hK h5
    clear h5
    refine ⟨rfl, fun d5 => ⟨_, stepG_mark0 .enable (by simp) rfl rfl (by k_ne) rfl H.f_enable (x_enable_n L) (x_enable_b L) (x_enable_x L) (x_enable_f L), ?_⟩⟩
    replace hK : HF O (w5.at d5) ∧ Live L.tWg Y.Wg (w5.at d5) := ⟨hat O w5 d5 hK.1, hK.2⟩
    refine mn_of (n := 14) (S := fun g W => YAcq Y O g W) hR (fun _ _ q => q) ?_
    walk_nrm
    u_c stepG_region_end imp_rely hK
    u_reg imp_rely hK
    u_in imp_rely hK
    refine goes_oper_k rfl rfl (by k_ne) (fun Kx hKx => ?_)
    have hcv := run_convert_to_unsafe (P := Y.F.P) H.underlying_tWgP H.underlying_tUP H.room_tWg (live_cell0 hK.2).choose_spec
    have hce := fun es => events_convert_to_unsafe (P := Y.F.P) H.underlying_tWgP H.underlying_tUP H.room_tWg (live_cell0 hK.2).choose_spec es
    go_simp
    refine hKx _ _ ⟨?_, ?_⟩
    · u_none
      intro ex hex
      have hmx := mem_listed hex
      simp [go_sem] at hmx
    clear hKx Kx hcv hce
    u_in imp_rely hK
    refine goes_oper_k rfl rfl (by k_ne) (fun Kx hKx => ?_)
    have hcv := run_convert_to_unsafe (P := Y.F.P) H.underlying_tWgP H.underlying_tUP H.room_tWg (live_cell0 hK.2).choose_spec
    have hce := fun es => events_convert_to_unsafe (P := Y.F.P) H.underlying_tWgP H.underlying_tUP H.room_tWg (live_cell0 hK.2).choose_spec es
    go_simp
    refine hKx _ _ ⟨?_, ?_⟩
    · u_none
      intro ex hex
      have hmx := mem_listed hex
      simp [go_sem, hce] at hmx
    clear hKx Kx hcv hce
    refine Goes.stop (fun w6 h6 => ?_)
    replace hK := imp_rely hK h6
    clear h6
    refine ⟨rfl, fun d6 => ⟨_, stepG_markAt .acquire (by simp) rfl rfl (by k_ne) rfl H.f_acquire (x_acquire_n L) (x_acquire_b L) (x_acquire_x L) (x_acquire_f L) (by simp [Act.eval, stA]), ?_⟩⟩
    replace hK : HF O (w6.at d6) ∧ Live L.tWg Y.Wg (w6.at d6) := ⟨hat O w6 d6 hK.1, hK.2⟩
    refine mn_then (n := 30) (Lv := fun w => HF O w ∧ Live L.tWg Y.Wg w) hR (fun w h => hT O w h.1 h.2) ?_
    walk_nrm
    u_c stepG_region_end imp_rely hK
    u_c stepG_seq imp_rely hK
    u_c stepG_seq imp_rely hK
    u_reg imp_rely hK
    u_op imp_rely hK
    u_op imp_rely hK
    u_op imp_rely hK
    u_op imp_rely hK
    u_op imp_rely hK
    u_op imp_rely hK
    u_op imp_rely hK
    u_op imp_rely hK
    u_skip imp_rely hK
    u_skip imp_rely hK
    u_op imp_rely hK
    u_c stepG_region_end imp_rely hK
    u_cond false imp_rely hK
    u_c stepG_skip imp_rely hK
    u_c stepG_ret' imp_rely hK
    u_leave0 H.f_wait imp_rely hK
    exact Goes.stop (fun w7 h7 => ⟨rfl, imp_rely hK h7⟩)
  · -- so many are counted
    obtain ⟨S, hS⟩ : ∃ S : Int, (v : Int) * KK = S := ⟨_, rfl⟩
    have a1 : S / 4294967296 = (v : Int) := by rw [← hS]; simp only [KK]; omega
    have b1 : bits .and .u64 S 2147483648 = 0 := by rw [← hS]; have := st_flag v 0 (by omega) (by omega); simpa [KK] using this
    have b2 : bits .and .u64 S 2147483647 = 0 := by rw [← hS]; have := st_waiters v 0 (by omega) (by omega); simpa [KK] using this
    have c1 : IntKind.i32.wrap (v : Int) = (v : Int) := by rw [IntKind.wrap_i32]; omega
    have wS : IntKind.u64.wrap (S + 1) = S + 1 := by rw [IntKind.wrap_u64, ← hS]; simp only [KK]; omega
    have q3 : decide ((v : Int) < 0) = false := decide_eq_false (by omega)
    have q4 : decide (0 < (v : Int)) = true := decide_eq_true (by omega)
    have q5 : ((v : Int) == 0) = false := by simp; omega
    have q6 : decide ((v : Int) = 0) = false := decide_eq_false (by omega)
    rw [hS] at hw
    refine ⟨_, stepG_load_atomic (v := S) rfl rfl (by k_ne) rfl H.f_loadU64 (x_loadU64_n L) (x_loadU64_b L) (x_loadU64_x L) .u64 (x_loadU64_f L) rfl hw.cellSt, fun h0 => absurd h0 (by omega), fun _ => ?_⟩
    replace hK : HF O (w1.at d1) ∧ Live L.tWg Y.Wg (w1.at d1) := ⟨hat O w1 d1 hK.1, hK.2⟩
    clear hw
    refine mn_of (n := 60) (S := fun g W => YW2 Y v O g W) hR (fun _ _ q => q) ?_
    walk_nrm
    u_op imp_rely hK
    u_c stepG_region_end imp_rely hK
    u_c stepG_ret' imp_rely hK
    u_leave1 H.f_uLoad imp_rely hK
    u_op imp_rely hK
    u_c stepG_region_end imp_rely hK
    u_c stepG_seq imp_rely hK
    u_reg imp_rely hK
    u_op imp_rely hK
    u_op imp_rely hK
    u_op imp_rely hK
    u_op imp_rely hK
    u_c stepG_region_end imp_rely hK
    u_c stepG_seq imp_rely hK
    u_reg imp_rely hK
    u_op imp_rely hK
    u_op imp_rely hK
    u_op imp_rely hK
    u_op imp_rely hK
    u_c stepG_region_end imp_rely hK
    u_c stepG_seq imp_rely hK
    u_c stepG_seq imp_rely hK
    u_reg imp_rely hK
    u_op imp_rely hK
    u_op imp_rely hK
    u_c stepG_region_end imp_rely hK
    u_cnd false imp_rely hK
    u_c stepG_skip imp_rely hK
    u_c stepG_seq imp_rely hK
    u_reg imp_rely hK
    u_op imp_rely hK
    u_op imp_rely hK
    u_op imp_rely hK
    u_op imp_rely hK
    u_op imp_rely hK
    u_op imp_rely hK
    u_call H.f_uCas (nm_uCas L) uCasFn imp_rely hK
    u_c stepG_seq imp_rely hK
    u_reg imp_rely hK
    u_op imp_rely hK
    u_c stepG_region_end imp_rely hK
    u_c stepG_seq imp_rely hK
    u_reg imp_rely hK
    u_op imp_rely hK
    u_op imp_rely hK
    u_op imp_rely hK
    u_op imp_rely hK
    u_op imp_rely hK
    refine Goes.stop (fun w2 h2 => ?_)
    replace hK := imp_rely hK h2
    clear h2
    refine ⟨rfl, fun d2 v' hv' hw => ⟨fun e => ?_, fun e => ?_⟩⟩
    · subst e
      replace hw : WgAt L.tWg Y.Wg (w2.at d2) ((v' : Nat) * KK) 0 := by rw [← hty]; exact hw
      rw [hS] at hw ⊢
      refine ⟨_, (stepG_cas_hit (v := S) (n := S + 1) rfl rfl (by k_ne) rfl H.f_casU64 (x_casU64_n L) (x_casU64_b L) (x_casU64_x L) .u64 (x_casU64_f L) rfl rfl rfl hw.cellSt (hw.thaw 0)).trans (by rfl), ?_⟩
      replace hK : HF O ((w2.at d2).setCell (stA Y.Wg) (.int .u64 (S + 1))) ∧ Live L.tWg Y.Wg ((w2.at d2).setCell (stA Y.Wg) (.int .u64 (S + 1))) := ⟨hset O _ _ _ rfl (hat O w2 d2 hK.1), ⟨_, _, hw.setSt _⟩⟩
      clear hw
      refine mn_of (n := 70) (S := fun g W => YWs Y O g W) hR (fun _ _ q => q) ?_
      walk_nrm
      u_op imp_rely hK
      u_c stepG_region_end imp_rely hK
      u_c stepG_ret' imp_rely hK
      u_leave1 H.f_uCas imp_rely hK
      u_c stepG_region_end imp_rely hK
      u_cond true imp_rely hK
      u_c stepG_seq imp_rely hK
      u_c stepG_seq imp_rely hK
      u_reg imp_rely hK
      u_op imp_rely hK
      u_op imp_rely hK
      u_op imp_rely hK
      u_op imp_rely hK
      u_c stepG_region_end imp_rely hK
      u_cond true imp_rely hK
      u_reg imp_rely hK
      u_op imp_rely hK
      u_op imp_rely hK
      u_op imp_rely hK
      u_in imp_rely hK
      refine goes_oper_k rfl rfl (by k_ne) (fun Kx hKx => ?_)
      have hcv := run_convert_to_unsafe (P := Y.F.P) H.underlying_tPU32 H.underlying_tUP H.room_tU32 (live_cell1 hK.2).choose_spec
      have hce := fun es => events_convert_to_unsafe (P := Y.F.P) H.underlying_tPU32 H.underlying_tUP H.room_tU32 (live_cell1 hK.2).choose_spec es
      go_simp
      refine hKx _ _ ⟨?_, ?_⟩
      · u_none
        intro ex hex
        have hmx := mem_listed hex
        simp [go_sem, hce] at hmx
      clear hKx Kx hcv hce
      refine Goes.stop (fun w3 h3 => ?_)
      replace hK := imp_rely hK h3
      clear h3
      refine ⟨rfl, fun d3 => ⟨_, stepG_markAt .write (by simp) rfl rfl (by k_ne) rfl H.f_raceWrite (x_raceWrite_n L) (x_raceWrite_b L) (x_raceWrite_x L) (x_raceWrite_f L) (ad := ⟨Y.Wg, 1, none⟩) (by simp [Act.eval]), ?_⟩⟩
      replace hK : HF O (w3.at d3) ∧ Live L.tWg Y.Wg (w3.at d3) := ⟨hat O w3 d3 hK.1, hK.2⟩
      refine mn_of (n := 40) (S := fun g W => YW3 Y O g W) hR (fun _ _ q => q) ?_
      walk_nrm
      u_c stepG_region_end imp_rely hK
      u_c stepG_seq imp_rely hK
      u_reg imp_rely hK
      u_op imp_rely hK
      u_c stepG_region_end imp_rely hK
      u_c stepG_seq imp_rely hK
      u_c stepG_seq imp_rely hK
      u_reg imp_rely hK
      u_op imp_rely hK
      u_op imp_rely hK
      u_op imp_rely hK
      u_op imp_rely hK
      u_skip imp_rely hK
      u_op imp_rely hK
      u_c stepG_region_end imp_rely hK
      u_cond false imp_rely hK
      u_c stepG_skip imp_rely hK
      u_c stepG_seq imp_rely hK
      u_reg imp_rely hK
      u_op imp_rely hK
      u_op imp_rely hK
      u_op imp_rely hK
      u_op imp_rely hK
      refine Goes.stop (fun w4 h4 => ?_)
      replace hK := imp_rely hK h4
      clear h4
      refine ⟨rfl, rfl, fun W5 hr5 hw => ?_, fun W5 hr5 hw => ?_⟩
      · obtain ⟨st, hw⟩ := hw
        replace hw : WgAt L.tWg Y.Wg W5 st 0 := by rw [← hty]; exact hw
        exact stepG_semacquire_wait rfl rfl rfl H.f_semacquire (x_semacquire_n L) (x_semacquire_b L) (x_semacquire_x L) (x_semacquire_f L) (by simp [Act.eval, smA]) hw.cellSm
      · have hw : WgAt L.tWg Y.Wg W5 0 1 := by rw [← hty]; exact hw
        refine ⟨_, (stepG_semacquire (n := 1) rfl rfl (by k_ne) rfl H.f_semacquire (x_semacquire_n L) (x_semacquire_b L) (x_semacquire_x L) (x_semacquire_f L) (by simp [Act.eval, smA]) hw.cellSm (by k_ne) (hw.thaw 1)).trans (by rfl), ?_⟩
        have hK : HF O (W5.setCell (smA Y.Wg) (.int .u32 0)) ∧ Live L.tWg Y.Wg (W5.setCell (smA Y.Wg) (.int .u32 0)) := ⟨hset O _ _ _ rfl (hrely O w4 W5 hr5 hK.1), ⟨_, _, hw.setSm 0⟩⟩
        clear hw
        refine mn_of (n := 30) (S := fun g W => YW4 Y O g W) hR (fun _ _ q => q) ?_
        walk_nrm
        u_c stepG_region_end imp_rely hK
        u_c stepG_seq imp_rely hK
        u_reg imp_rely hK
        u_op imp_rely hK
        u_op imp_rely hK
        u_op imp_rely hK
        u_call H.f_uLoad (nm_uLoad L) uLoadFn imp_rely hK
        u_c stepG_seq imp_rely hK
        u_reg imp_rely hK
        u_op imp_rely hK
        u_c stepG_region_end imp_rely hK
        u_c stepG_seq imp_rely hK
        u_reg imp_rely hK
        u_op imp_rely hK
        u_op imp_rely hK
        u_op imp_rely hK
        refine Goes.stop (fun w8 h8 => ?_)
        replace hK := imp_rely hK h8
        clear h8
        refine ⟨rfl, fun d8 hw => ?_⟩
        replace hw : WgAt L.tWg Y.Wg (w8.at d8) 0 0 := by rw [← hty]; exact hw
        refine ⟨_, stepG_load_atomic (v := 0) rfl rfl (by k_ne) rfl H.f_loadU64 (x_loadU64_n L) (x_loadU64_b L) (x_loadU64_x L) .u64 (x_loadU64_f L) rfl hw.cellSt, ?_⟩
        replace hK : HF O (w8.at d8) ∧ Live L.tWg Y.Wg (w8.at d8) := ⟨hat O w8 d8 hK.1, hK.2⟩
        clear hw
        refine mn_of (n := 40) (S := fun g W => YKe Y O g W) hR (fun _ _ q => q) ?_
        walk_nrm
        u_op imp_rely hK
        u_c stepG_region_end imp_rely hK
        u_c stepG_ret' imp_rely hK
        u_leave1 H.f_uLoad imp_rely hK
        u_op imp_rely hK
        u_op imp_rely hK
        u_c stepG_region_end imp_rely hK
        u_c stepG_seq imp_rely hK
        u_cond true imp_rely hK
        u_c stepG_seq imp_rely hK
        u_reg imp_rely hK
        refine Goes.stop (fun w5 h5 => ?_)
        replace hK := imp_rely hK h5
        clear h5
        refine ⟨rfl, fun d5 => ⟨_, stepG_mark0 .enable (by simp) rfl rfl (by k_ne) rfl H.f_enable (x_enable_n L) (x_enable_b L) (x_enable_x L) (x_enable_f L), ?_⟩⟩
        replace hK : HF O (w5.at d5) ∧ Live L.tWg Y.Wg (w5.at d5) := ⟨hat O w5 d5 hK.1, hK.2⟩
        refine mn_of (n := 14) (S := fun g W => YAcq Y O g W) hR (fun _ _ q => q) ?_
        walk_nrm
        u_c stepG_region_end imp_rely hK
        u_reg imp_rely hK
        u_in imp_rely hK
        refine goes_oper_k rfl rfl (by k_ne) (fun Kx hKx => ?_)
        have hcv := run_convert_to_unsafe (P := Y.F.P) H.underlying_tWgP H.underlying_tUP H.room_tWg (live_cell0 hK.2).choose_spec
        have hce := fun es => events_convert_to_unsafe (P := Y.F.P) H.underlying_tWgP H.underlying_tUP H.room_tWg (live_cell0 hK.2).choose_spec es
        go_simp
        refine hKx _ _ ⟨?_, ?_⟩
        · u_none
          intro ex hex
          have hmx := mem_listed hex
          simp [go_sem] at hmx
        clear hKx Kx hcv hce
        u_in imp_rely hK
        refine goes_oper_k rfl rfl (by k_ne) (fun Kx hKx => ?_)
        have hcv := run_convert_to_unsafe (P := Y.F.P) H.underlying_tWgP H.underlying_tUP H.room_tWg (live_cell0 hK.2).choose_spec
        have hce := fun es => events_convert_to_unsafe (P := Y.F.P) H.underlying_tWgP H.underlying_tUP H.room_tWg (live_cell0 hK.2).choose_spec es
        go_simp
        refine hKx _ _ ⟨?_, ?_⟩
        · u_none
          intro ex hex
          have hmx := mem_listed hex
          simp [go_sem, hce] at hmx
        clear hKx Kx hcv hce
        refine Goes.stop (fun w6 h6 => ?_)
        replace hK := imp_rely hK h6
        clear h6
        refine ⟨rfl, fun d6 => ⟨_, stepG_markAt .acquire (by simp) rfl rfl (by k_ne) rfl H.f_acquire (x_acquire_n L) (x_acquire_b L) (x_acquire_x L) (x_acquire_f L) (by simp [Act.eval, stA]), ?_⟩⟩
        replace hK : HF O (w6.at d6) ∧ Live L.tWg Y.Wg (w6.at d6) := ⟨hat O w6 d6 hK.1, hK.2⟩
        refine mn_then (n := 30) (Lv := fun w => HF O w ∧ Live L.tWg Y.Wg w) hR (fun w h => hT O w h.1 h.2) ?_
        walk_nrm
        u_c stepG_region_end imp_rely hK
        u_c stepG_seq imp_rely hK
        u_c stepG_seq imp_rely hK
        u_reg imp_rely hK
        u_op imp_rely hK
        u_c stepG_region_end imp_rely hK
        u_cond false imp_rely hK
        u_c stepG_skip imp_rely hK
        u_c stepG_ret' imp_rely hK
        u_leave0 H.f_wait imp_rely hK
        exact Goes.stop (fun w7 h7 => ⟨rfl, imp_rely hK h7⟩)
    · have hw : WgAt L.tWg Y.Wg (w2.at d2) ((v' : Nat) * KK) 0 := by rw [← hty]; exact hw
      refine ⟨_, stepG_cas_miss (v := (v' : Int) * KK) (old := S) (n := S + 1) rfl rfl (by k_ne) rfl H.f_casU64 (x_casU64_n L) (x_casU64_b L) (x_casU64_x L) .u64 (x_casU64_f L) rfl rfl rfl hw.cellSt (hw.thaw 0) (by rw [← hS]; simp only [KK]; omega), ?_⟩
      replace hK : HF O (w2.at d2) ∧ Live L.tWg Y.Wg (w2.at d2) := ⟨hat O w2 d2 hK.1, hK.2⟩
      clear hw
      refine mn_of (n := 30) (S := fun g W => WaitAt L Y.Wg (b₀.at a₀ (.inRegion ops₀ (i₀ :: rest₀) :: k₀)) cs HF O g W) hR (fun g W q => hanch O g W q) ?_
      walk_nrm
      u_op imp_rely hK
      u_c stepG_region_end imp_rely hK
      u_c stepG_ret' imp_rely hK
      u_leave1 H.f_uCas imp_rely hK
      u_c stepG_region_end imp_rely hK
      u_cond false imp_rely hK
      u_c stepG_skip imp_rely hK
      u_c stepG_inBlock imp_rely hK
      u_c stepG_inLoop imp_rely hK
      exact Goes.stop (fun w9 h9 => ⟨(imp_rely hK h9).1, (imp_rely hK h9).2, _, rfl, by simp, by simp⟩)
set_option maxRecDepth 100000 in
theorem wait_start (S : Y.Syncs L) (hrely : ∀ O W W1, RelyJ Y.F.J O Y.F.Sh W W1 → HF O W → HF O W1) (hat : ∀ O W d, HF O W → HF O (W.at d)) {b₀ : Frame} {a₀ : Act} {ops₀ : Array Oper} {i₀ : Nat} {rest₀ : List Nat} {k₀ : List Item} {cs : List Frame} (hanch : ∀ O g W, WaitAt L Y.Wg (b₀.at a₀ (.inRegion ops₀ (i₀ :: rest₀) :: k₀)) cs HF O g W → Y.Anch O g W) {O : Nat → Prop} (w : World) (hK : HF O w ∧ Live L.tWg Y.Wg w) :
    Y.mn (YKd Y) O (G (Frame.enter Y.F.P L.wait #[.pointer (some ⟨Y.Wg, 0, none⟩)] .normal) (b₀.at a₀ (.inRegion ops₀ (i₀ :: rest₀) :: k₀) :: cs)) w := by
  obtain ⟨H, hty, hj⟩ := S
  have e : Frame.enter Y.F.P L.wait #[.pointer (some ⟨Y.Wg, 0, none⟩)] .normal = (base L.wait).at ⟨#[.pointer (some ⟨Y.Wg, 0, none⟩)] ++ Array.replicate ((waitFn L).ntmps - 1) undef, []⟩ [.code ((waitFn L).body.getD .skip)] := by
    simp [Frame.enter, Frame.at, H.f_wait, base, waitFn]
  rw [e]
  clear e
  lib_facts
  have hR := fun (W W1 : World) (q : RelyJ Y.F.J O Y.F.Sh W W1) (h : HF O W ∧ Live L.tWg Y.Wg W) => (⟨hrely O W W1 q h.1, (hj W1).1 q.j⟩ : HF O W1 ∧ Live L.tWg Y.Wg W1)
  refine mn_of (n := 10) (S := fun g W => YKd Y O g W) hR (fun _ _ q => q) ?_
  walk_nrmf waitFn
  u_c stepG_seq imp_rely hK
  u_cond true imp_rely hK
  u_reg imp_rely hK
  refine Goes.stop (fun w1 h1 => ?_)
  replace hK := imp_rely hK h1
  clear h1
  refine ⟨rfl, fun d => ⟨_, stepG_mark0 .disable (by simp) rfl rfl (by k_ne) rfl H.f_disable (x_disable_n L) (x_disable_b L) (x_disable_x L) (x_disable_f L), ?_⟩⟩
  replace hK : HF O (w1.at d) ∧ Live L.tWg Y.Wg (w1.at d) := ⟨hat O w1 d hK.1, hK.2⟩
  refine mn_of (n := 10) (S := fun g W => WaitAt L Y.Wg (b₀.at a₀ (.inRegion ops₀ (i₀ :: rest₀) :: k₀)) cs HF O g W) hR (fun g W q => hanch O g W q) ?_
  walk_nrm
  u_c stepG_region_end imp_rely hK
  u_c stepG_block imp_rely hK
  u_c stepG_loop imp_rely hK
  exact Goes.stop (fun w2 h2 => ⟨(imp_rely hK h2).1, (imp_rely hK h2).2, _, rfl, by simp, by simp⟩)
end wait
end Go.Proofs.YtmbfdhekplnoaaaDoor

namespace Go.Proofs.YtmbfdhekplnoaaaDoor
open Go Go.Conc Go.RowKit Go.Conc.Lib Go.ConcR.Gen
open Go.ConcR (KK WgAt stA smA)

noncomputable def ofC : Code := match Tryd.f13.body with
  | some (.seq _ (.seq _ (.seq _ (.seq (.seq _ (.block _ (.loop c))) _)))) => c
  | _ => .skip
noncomputable def ofR : Code := match Tryd.f13.body with
  | some (.seq _ (.seq _ (.seq _ (.seq _ c)))) => c
  | _ => .skip
noncomputable def ofOps8 : Array Oper := match ofR with
  | .seq (.region _ ops _) _ => ops
  | _ => #[]
noncomputable def ofR9 : Code := match ofR with
  | .seq _ c => c
  | _ => .skip
noncomputable def ofOps10 : Array Oper := match ofR9 with
  | .seq _ (.seq (.region _ ops _) _) => ops
  | _ => #[]
noncomputable def ofR11 : Code := match ofR9 with
  | .seq _ (.seq _ c) => c
  | _ => .skip
structure OfSlots where
  M : Nat
  wk : Int
  fv : Value
  b5 : Nat
  b7 : Nat
  b8 : Nat
  wg : Nat
  cn : Nat
  cb : Nat
  c : Nat
def ofT (k : OfSlots) (l : Value) (s : Nat) (x : Array Value) : Array Value :=
  #[.int .i64 k.M, .int .i64 k.wk, k.fv, x.getD 3 undef, x.getD 4 undef, .pointer (some ⟨k.b5, 0, none⟩), .slice none 0 0, .pointer (some ⟨k.b7, 0, none⟩), .pointer (some ⟨k.b8, 0, none⟩), .pointer (some ⟨k.wg, 0, none⟩), l, .chan (some k.cn), .chan (some k.cb), .int .i64 k.M, .int .i64 k.wk, .int .i64 k.c, .int .i64 s, x.getD 17 undef, x.getD 18 undef, x.getD 19 undef, x.getD 20 undef, x.getD 21 undef, x.getD 22 undef, x.getD 23 undef, x.getD 24 undef, x.getD 25 undef, x.getD 26 undef, x.getD 27 undef]
noncomputable def ofCall (k : OfSlots) (x : Array Value) : Frame := (base 13).at ⟨ofT k undef k.c x, []⟩ [.inRegion ofOps8 [3, 4], .code ofR9]
noncomputable def ofWait (k : OfSlots) (lb : Nat) (x : Array Value) : Frame := (base 13).at ⟨ofT k (.slice (some ⟨lb, 0, none⟩) k.M k.M) k.c x, []⟩ [.inRegion ofOps10 [0], .code ofR11]
noncomputable def ofDone (k : OfSlots) (lb : Nat) (x : Array Value) (cs : List Frame) : Goroutine := G ((base 13).at ⟨ofT k (.slice (some ⟨lb, 0, none⟩) k.M k.M) k.c x, []⟩ [.inRegion ofOps10 [], .code ofR11]) cs
def OfAllIn (F : Farm) (Env : World → Prop) (A : Nat → Value → Value → (Nat → Prop) → World → Prop) (lb : Nat) (O : Nat → Prop) (W : World) : Prop :=
  ∃ ds : List Nat, ds.length = F.M ∧ ds.Nodup ∧ (∀ i ∈ ds, i < F.M) ∧ HoFacts F Env A lb ds O W
section of
variable {Y : Yard} {A : Nat → Value → Value → (Nat → Prop) → World → Prop} {Env : World → Prop} {fv : Value}
theorem OfAllIn.rely (K : WkAsk Y.F Env fv A) {lb : Nat} {O : Nat → Prop} {W W1 : World} (h : OfAllIn Y.F Env A lb O W) (r : Rely O Y.F.Sh W W1) : OfAllIn Y.F Env A lb O W1 := by
  obtain ⟨ds, h1, h2, h3, h4⟩ := h
  exact ⟨ds, h1, h2, h3, h4.rely K r⟩
theorem OfAllIn.turn (K : WkAsk Y.F Env fv A) (hsh : ¬ Y.F.Sh Y.F.cn ∧ ¬ Y.F.Sh Y.F.ga.block) {lb : Nat} {O : Nat → Prop} {W W1 : World} (h : OfAllIn Y.F Env A lb O W) (hs : W1.heap.size = W.heap.size) (hk : ∀ b, b ≠ Y.F.cn → b ≠ Y.F.ga.block → W1.heap[b]? = W.heap[b]?) (h1 : W1.tape = W.tape) (h2 : W1.os = W.os) (h3 : W1.output = W.output) : OfAllIn Y.F Env A lb O W1 := by
  refine h.rely K ⟨by rw [hs]; exact Nat.le_refl _, fun b _ q => hk b (fun e => ?_) (fun e => ?_), h1, h2, h3⟩
  · obtain ⟨ds, _, _, _, h4⟩ := h
    exact q.elim (fun z => (h4.free b z).1 e) (fun z => hsh.1 (e ▸ z))
  · obtain ⟨ds, _, _, _, h4⟩ := h
    exact q.elim (fun z => (h4.free b z).2 e) (fun z => hsh.2 (e ▸ z))
set_option maxRecDepth 100000 in
set_option maxHeartbeats 1000000 in
theorem of_close (K : WkAsk Y.F Env fv A) (hP : Y.F.P = Tryd.prog) (S : Y.Syncs lk) {k : OfSlots} (kM : k.M = Y.F.M) (kcn : k.cn = Y.F.cn) (kwg : k.wg = Y.Wg) (_hga : Y.F.ga.block = Y.Wg) (hsh : ¬ Y.F.Sh Y.F.cn ∧ ¬ Y.F.Sh Y.F.ga.block) (s7 : Y.F.Sh k.b7) (hcell : ∀ W, Env W → W.cell? ⟨k.b7, 0, none⟩ = some (.chan (some Y.F.cn))) {cs : List Frame}
    (hanch : ∀ lb x O g W, WaitAt lk Y.Wg (ofWait k lb x) cs (OfAllIn Y.F Env A lb) O g W → Y.Anch O g W)
    {lb : Nat} {c1 : Value} {x y : Array Value} {O : Nat → Prop} {W : World} (hF : OfAllIn Y.F Env A lb O W) :
    GoesJ Y.F.P true Y.F.J Y.F.Sh (YClose Y) O (G ((base 29).at ⟨hoT Y.F.M c1 Y.F.cb lb Y.F.M Y.F.M x, []⟩ [.code hoR]) (ofCall k y :: cs)) W := by
  refine GoesJ.of ?_
  rw [hP]
  unfold hoT ofCall ofT
  simp only [hoR, ofOps8, ofR9, ofR, Tryd.f29, Tryd.f13]
  refine Walks.idle rfl (fun _ => stepG_seq) ?_
  refine Walks.idle rfl (fun _ => stepG_region) ?_
  simp only [List.size_toArray, List.length_cons, List.length_nil, Nat.reduceAdd, Nat.zero_add, List.range, List.range.loop]
  refine walks_goes rfl (fun W1 hr => ?_)
  replace hF := hF.rely K hr
  clear hr
  refine goes_oper_k rfl rfl (by k_ne) (fun K' hK => ?_)
  go_simp
  refine hK _ _ ⟨_, guar_none (fun e he => by have hm := mem_listed he; simp [go_sem, *] at hm), ?_⟩
  clear hK K'
  refine walks_goes rfl (fun W1 hr => ?_)
  replace hF := hF.rely K hr
  clear hr
  refine goes_oper_k rfl rfl (by k_ne) (fun K' hK => ?_)
  go_simp
  refine hK _ _ ⟨_, guar_none (fun e he => by have hm := mem_listed he; simp [go_sem, *] at hm), ?_⟩
  clear hK K'
  refine Walks.idle rfl (fun _ => stepG_region_end) ?_
  refine Walks.idle rfl (fun _ => stepG_ret') ?_
  refine walks_goes rfl (fun W1 hr => ?_)
  replace hF := hF.rely K hr
  clear hr
  refine goes_leave1 rfl rfl Tryd.func29 rfl ⟨_, Guar.refl _ _ _, ?_⟩
  walk_nrm
  refine walks_goes rfl (fun W1 hr => ?_)
  replace hF := hF.rely K hr
  clear hr
  refine goes_oper_k rfl rfl (by k_ne) (fun K' hK => ?_)
  go_simp
  refine hK _ _ ⟨_, guar_none (fun e he => by have hm := mem_listed he; simp [go_sem, *] at hm), ?_⟩
  clear hK K'
  refine Walks.idle rfl (fun _ => stepG_region_end) ?_
  refine Walks.idle rfl (fun _ => stepG_seq) ?_
  refine Walks.idle rfl (fun _ => stepG_region) ?_
  simp only [List.size_toArray, List.length_cons, List.length_nil, Nat.reduceAdd, Nat.zero_add, List.range, List.range.loop]
  refine walks_goes rfl (fun W1 hr => ?_)
  replace hF := hF.rely K hr
  clear hr
  have c7 := hcell W1 hF.choose_spec.2.2.2.env
  refine goes_oper_k rfl rfl (by k_ne) (fun K' hK => ?_)
  go_simp
  refine hK _ _ ⟨_, guar_reads (fun e he => ?_), ?_⟩
  · have hm := mem_listed he
    simp [go_sem, *] at hm
    subst hm
    exact ⟨_, rfl, .inr s7⟩
  clear hK K' c7
  refine Walks.stop fun W2 hr => ?_
  replace hF := hF.rely K hr
  clear hr
  refine ⟨rfl, rfl, fun d s tm hc => ⟨_, by rw [hP]; exact stepG_close rfl rfl (by k_ne) rfl (by simp [Act.eval]) hc rfl, rfl, ?_⟩⟩
  have hF3 : OfAllIn Y.F Env A lb O ((W2.at d).setChan Y.F.cn 0 #[] true s s tm) := hF.turn K hsh (by simp [World.setChan]; rfl) (fun b h1 _ => Array.getElem?_setIfInBounds_ne (Ne.symm h1)) rfl rfl rfl
  refine GoesJ.bindJ (S1 := fun O' g W => O' = O ∧ OfAllIn Y.F Env A lb O W ∧ ∃ y, g = G (Frame.enter Y.F.P lk.wait #[.pointer (some ⟨Y.Wg, 0, none⟩)] .normal) (ofWait k lb y :: cs)) (fun O' g W hj q => ?_) (GoesJ.of (J := Y.F.J) ?_)
  · obtain ⟨rfl, hF, y, rfl⟩ := q
    exact wait_start (HF := OfAllIn Y.F Env A lb) S (fun O W W1 r h => h.rely K r.r) (fun O W d h => h.rely K ⟨Nat.le_refl _, fun _ _ _ => rfl, rfl, rfl, rfl⟩) (fun O g W q => hanch lb y O g W q) W ⟨hF, (S.j W).1 hj⟩
  · rw [hP]
    replace hF := hF3
    clear hF3
    generalize (W2.at d).setChan Y.F.cn 0 #[] true s s tm = W3 at hF ⊢
    walk_nrm
    refine Walks.idle rfl (fun _ => stepG_region_end) ?_
    refine Walks.idle rfl (fun _ => stepG_seq) ?_
    refine Walks.idle rfl (fun _ => stepG_region) ?_
    simp only [List.size_toArray, List.length_cons, List.length_nil, Nat.zero_add, List.range, List.range.loop]
    refine walks_goes rfl (fun W4 hr => ?_)
    replace hF := hF.rely K hr
    clear hr
    refine goes_call rfl rfl (by k_ne) rfl Tryd.func30 (nm_wait lk) rfl ⟨_, Guar.refl _ _ _, ?_⟩
    refine Walks.stop fun W5 hr => ⟨rfl, hF.rely K hr, #[undef, undef, undef, y.getD 3 undef, y.getD 4 undef, undef, undef, undef, undef, undef, undef, undef, undef, undef, undef, undef, undef, y.getD 17 undef, y.getD 18 undef, y.getD 19 undef, y.getD 20 undef, y.getD 21 undef, y.getD 22 undef, y.getD 23 undef, .slice (some ⟨lb, 0, none⟩) Y.F.M Y.F.M, .chan (some Y.F.cn), y.getD 26 undef, y.getD 27 undef], ?_⟩
    rw [show lk.wait = 30 from rfl, enter_at _ Tryd.func30 rfl]
    simp [ofWait, ofT, ofOps10, ofR11, ofR9, ofR, Tryd.f13, Act.eval, kM, kcn, kwg]
end of
end Go.Proofs.YtmbfdhekplnoaaaDoor

namespace Go.Proofs.YtmbfdhekplnoaaaDoor
open Go Go.Conc Go.RowKit Go.Conc.Lib Go.ConcR.Gen
open Go.ConcR (KK WgAt stA smA)

noncomputable def ofOps5 : Array Oper := match ofC with
  | .seq _ (.seq _ (.seq (.block _ (.seq (.region _ ops _) _)) _)) => ops
  | _ => #[]
noncomputable def ofC6 : Code := match ofC with
  | .seq _ (.seq _ (.seq (.block _ (.seq _ c)) _)) => c
  | _ => .skip
noncomputable def ofC7 : Code := match ofC with
  | .seq _ (.seq _ (.seq _ c)) => c
  | _ => .skip
noncomputable def ofHead (k : OfSlots) (s : Nat) (x : Array Value) (cs : List Frame) : Goroutine := G ((base 13).at ⟨ofT k undef s x, []⟩ [.code ofC, .inLoop ofC, .inBlock 0, .code ofR]) cs
noncomputable def ofAdd (k : OfSlots) (s : Nat) (x : Array Value) : Frame := (base 13).at ⟨ofT k undef s x, []⟩ [.inRegion ofOps5 [0], .code ofC6, .inBlock 1, .code ofC7, .inLoop ofC, .inBlock 0, .code ofR]
structure OfAsk (Y : Yard) (Env : World → Prop) (A : Nat → Value → Value → (Nat → Prop) → World → Prop) (k : OfSlots) : Prop where
  K : WkAsk Y.F Env k.fv A
  P : Y.F.P = Tryd.prog
  S : Y.Syncs lk
  done : Y.F.Done = YR0 Y
  close : ∀ ds, Y.F.Close ds = YClose Y
  num : ∀ i : Nat, Y.F.num i = .int .i64 i
  R : ∀ i v X W, Y.F.R i v X W → ∃ s e, v = .agg #[.int .i64 i, s, e] ∧ A i s e X W ∧ ∀ b, X b → b < W.heap.size ∧ b ≠ Y.F.cn ∧ b ≠ Y.F.ga.block
  M : k.M = Y.F.M
  cn : k.cn = Y.F.cn
  cb : k.cb = Y.F.cb
  wg : k.wg = Y.Wg
  ga : Y.F.ga.block = Y.Wg
  few : Y.F.M ≤ 1000
  sh : ¬ Y.F.Sh Y.F.cn ∧ ¬ Y.F.Sh Y.F.ga.block
  s5 : Y.F.Sh k.b5
  s7 : Y.F.Sh k.b7
  s8 : Y.F.Sh k.b8
  cell : ∀ W, Env W → W.cell? ⟨k.b7, 0, none⟩ = some (.chan (some Y.F.cn)) ∧ W.cell? ⟨k.b8, 0, none⟩ = some (.chan (some Y.F.cb)) ∧ W.cell? ⟨k.b5, 0, none⟩ = some k.fv
section of
variable {Y : Yard} {A : Nat → Value → Value → (Nat → Prop) → World → Prop} {Env : World → Prop} {k : OfSlots}
theorem OfFacts.turn (Q : OfAsk Y Env A k) {O : Nat → Prop} {W W1 : World} (h : OfFacts Y.F Env O W) (hs : W1.heap.size = W.heap.size) (hk : ∀ b, b ≠ Y.F.ga.block → W1.heap[b]? = W.heap[b]?) (h1 : W1.tape = W.tape) (h2 : W1.os = W.os) (h3 : W1.output = W.output) : OfFacts Y.F Env O W1 :=
  h.rely Q.K ⟨by rw [hs]; exact Nat.le_refl _, fun b _ q => hk b fun e => q.elim (fun z => (h.free b z).2 e) (fun z => Q.sh.2 (e ▸ z)), h1, h2, h3⟩
theorem HGo.here {Nx : Stp} {O : Nat → Prop} {W : World} {b : Frame} {a : Act} {ops : Array Oper} {i : Nat} {rest : List Nat} {o : Oper} {kk : List Item} {cs : List Frame} {dd : Deferred} {f : Fn} {c : Array Value} (ho : ops[i]? = some o) (hw : Region.wanted o (yielded ops a.tmps) = true) (hk : b.kind ≠ .early)
    (hr : ∀ w, (execOp a.eval o).run Y.F.P w = .ok (.spawn dd) w) (hd : dd.target = .fn f c) (he : ∀ w, listed Y.F.P b.fn a o w = #[]) (hch : ∀ d, GoesJ Y.F.P false Y.F.J Y.F.Sh (KRecv Y.F Y.F.M) (fun _ => False) (born Y.F.P dd) (W.at d))
    (hg : ∀ d, GoesJ Y.F.P true Y.F.J Y.F.Sh Nx O (G (b.at (a.put o.dst undef) (.inRegion ops rest :: kk)) cs) (W.at d)) : HGo Y Nx O (G (b.at a (.inRegion ops (i :: rest) :: kk)) cs) W := by
  refine ⟨rfl, fun d => ⟨_, born Y.F.P dd, fun _ => False, (stepG_spawn ho hw hk (hr _) hd).trans (by rw [he]), fun _ z => z.elim, rfl, hch d, ?_⟩⟩
  have eO : (fun x => O x ∧ ¬ False) = O := funext fun x => propext ⟨And.left, fun z => ⟨z, id⟩⟩
  rw [eO]
  exact hg d
set_option maxRecDepth 100000 in
set_option maxHeartbeats 1000000 in
theorem of_out (Q : OfAsk Y Env A k) {cs : List Frame} (hanch : ∀ lb x O g W, WaitAt lk Y.Wg (ofWait k lb x) cs (OfAllIn Y.F Env A lb) O g W → Y.Anch O g W) {x : Array Value} {O : Nat → Prop} {W : World} (hF : OfFacts Y.F Env O W) :
    GoesJ Y.F.P true Y.F.J Y.F.Sh (MSel Y.F (Y.F.M + Y.F.M) 0 []) O (ofHead k k.c x cs) W := by
  have K := Q.K
  refine GoesJ.bindJ (S1 := fun O' g W => O' = O ∧ OfFacts Y.F Env O W ∧ ∃ y, g = G ((base 29).at ⟨#[.int .i64 Y.F.M, .chan (some Y.F.cn), .chan (some Y.F.cb)] ++ Array.replicate (Tryd.f29.ntmps - 3) undef, []⟩ [.code (Tryd.f29.body.getD .skip)]) (ofCall k y :: cs)) (fun O' g W _ q => ?_) (GoesJ.of (J := Y.F.J) ?_)
  · obtain ⟨rfl, hF, y, rfl⟩ := q
    refine ho_enter K Q.P Q.few hF (fun lb x W hn hH => ?_)
    refine ho_sel K Q.P Q.num Q.few Q.R (fun ds O W c1 x h1 h2 h3 h4 => ?_) (Y.F.M + Y.F.M) 0 [] _ x _ W (by simp) (Nat.zero_le _) (Nat.le_refl _) List.nodup_nil (fun i hi => by cases hi) (fun _ => rfl) hH
    rw [Q.close]
    exact of_close K Q.P Q.S Q.M Q.cn Q.wg Q.ga Q.sh Q.s7 (fun W h => (Q.cell W h).1) hanch ⟨ds, h1, h2, h3, h4⟩
  · have hc : ¬ ((k.c : Nat) : Int) < (k.c : Int) := by omega
    have kM := Q.M
    have kcn := Q.cn
    have kcb := Q.cb
    rw [Q.P]
    unfold ofHead ofT
    simp only [ofC, ofR, Tryd.f13]
    refine Walks.idle rfl (fun _ => stepG_seq) ?_
    refine Walks.idle rfl (fun _ => stepG_region) ?_
    simp only [List.size_toArray, List.length_cons, List.length_nil, Nat.zero_add, List.range, List.range.loop]
    refine walks_goes rfl (fun W1 hr => ?_)
    replace hF := hF.rely K hr
    clear hr
    refine goes_oper_k rfl rfl (by k_ne) (fun K' hK => ?_)
    go_simp
    refine hK _ _ ⟨_, guar_none (fun e he => by have hm := mem_listed he; simp [go_sem, *] at hm), ?_⟩
    clear hK K'
    refine Walks.idle rfl (fun _ => stepG_region_end) ?_
    refine Walks.idle rfl (fun _ => stepG_seq) ?_
    refine Walks.idle rfl (fun _ => stepG_cond (t := false) rfl) ?_
    simp only [Bool.false_eq_true, ↓reduceIte]
    refine Walks.idle rfl (fun _ => stepG_exit rfl) ?_
    refine Walks.idle rfl (fun _ => stepG_seq) ?_
    refine Walks.idle rfl (fun _ => stepG_region) ?_
    simp only [List.size_toArray, List.length_cons, List.length_nil, Nat.reduceAdd, Nat.zero_add, List.range, List.range.loop]
    refine walks_goes rfl (fun W1 hr => ?_)
    replace hF := hF.rely K hr
    clear hr
    refine goes_oper_k rfl rfl (by k_ne) (fun K' hK => ?_)
    go_simp
    refine hK _ _ ⟨_, guar_none (fun e he => by have hm := mem_listed he; simp [go_sem, *] at hm), ?_⟩
    clear hK K'
    refine walks_goes rfl (fun W1 hr => ?_)
    replace hF := hF.rely K hr
    clear hr
    obtain ⟨c7, c8, c5⟩ := Q.cell W1 hF.w.env
    refine goes_oper_k rfl rfl (by k_ne) (fun K' hK => ?_)
    go_simp
    refine hK _ _ ⟨_, guar_reads (fun e he => ?_), ?_⟩
    · have hm := mem_listed he
      simp [go_sem, *] at hm
      subst hm
      exact ⟨_, rfl, .inr Q.s7⟩
    clear hK K' c7 c8 c5
    refine walks_goes rfl (fun W1 hr => ?_)
    replace hF := hF.rely K hr
    clear hr
    obtain ⟨c7, c8, c5⟩ := Q.cell W1 hF.w.env
    refine goes_oper_k rfl rfl (by k_ne) (fun K' hK => ?_)
    go_simp
    refine hK _ _ ⟨_, guar_reads (fun e he => ?_), ?_⟩
    · have hm := mem_listed he
      simp [go_sem, *] at hm
      subst hm
      exact ⟨_, rfl, .inr Q.s8⟩
    clear hK K' c7 c8 c5
    refine walks_goes rfl (fun W1 hr => ?_)
    replace hF := hF.rely K hr
    clear hr
    refine goes_call rfl rfl (by k_ne) rfl Tryd.func29 (by kernel_rfl) rfl ⟨_, Guar.refl _ _ _, ?_⟩
    refine Walks.stop fun W5 hr => ⟨rfl, hF.rely K hr, #[undef, undef, undef, x.getD 3 undef, x.getD 4 undef, undef, undef, undef, undef, undef, undef, undef, undef, undef, undef, undef, undef, .bool false, x.getD 18 undef, x.getD 19 undef, x.getD 20 undef, .int .i64 Y.F.M, .chan (some Y.F.cn), .chan (some Y.F.cb), x.getD 24 undef, x.getD 25 undef, x.getD 26 undef, x.getD 27 undef], ?_⟩
    simp [ofCall, ofT, ofOps8, ofR9, ofR, Tryd.f13, Tryd.f29, Act.eval, kM, kcn, kcb]
set_option maxRecDepth 100000 in
set_option maxHeartbeats 1000000 in
theorem of_hire (Q : OfAsk Y Env A k) {cs : List Frame} (hanch : ∀ lb x O g W, WaitAt lk Y.Wg (ofWait k lb x) cs (OfAllIn Y.F Env A lb) O g W → Y.Anch O g W) (hck : k.c ≤ 1000) {O : Nat → Prop} :
    ∀ (c s : Nat) (x : Array Value) (W : World), s + c = k.c → OfFacts Y.F Env O W → GoesJ Y.F.P true Y.F.J Y.F.Sh (HNx Y c s) O (ofHead k s x cs) W := by
  intro c
  induction c with
  | zero =>
    intro s x W hs hF
    obtain rfl : s = k.c := by omega
    exact of_out Q hanch hF
  | succ c ih =>
    intro s x W hs hF
    have K := Q.K
    show GoesJ Y.F.P true Y.F.J Y.F.Sh (HDis Y s (HNx Y c (s + 1))) O (ofHead k s x cs) W
    refine GoesJ.bindJ (S1 := fun O' g W => O' = O ∧ OfFacts Y.F Env O W ∧ ∃ x, g = G (Frame.enter Y.F.P lk.add #[.pointer (some ⟨Y.Wg, 0, none⟩), .int .i64 1] .normal) (ofAdd k s x :: cs)) (fun O' g W hj q => ?_) (GoesJ.of (J := Y.F.J) ?_)
    · obtain ⟨rfl, hF, x, rfl⟩ := q
      refine add_walk (HF := fun O W => OfFacts Y.F Env O W) Q.S (fun O W W1 r h => h.rely K r.r) (fun O W d h => h.rely K ⟨Nat.le_refl _, fun _ _ _ => rfl, rfl, rfl, rfl⟩)
        (fun O W a v ha h => h.turn Q (by simp [World.setCell]) (fun b hb => RowKit.Below.heap_setCell _ _ _ _ (fun e => hb (by rw [Q.ga, ← ha]; exact e))) rfl rfl rfl) (by omega) W ⟨hF, (Q.S.j W).1 hj⟩ (fun w hF hl => ?_)
      have kwg := Q.wg
      refine GoesJ.of ?_
      rw [Q.P]
      unfold ofT
      rw [kwg]
      simp only [ofOps5, ofC6, ofC7, ofC, ofR, Tryd.f13]
      walk_nrm
      refine Walks.idle rfl (fun _ => stepG_region_end) ?_
      refine Walks.idle rfl (fun _ => stepG_region) ?_
      simp only [List.size_toArray, List.length_cons, List.length_nil, Nat.reduceAdd, Nat.zero_add, List.range, List.range.loop]
      refine walks_goes rfl (fun W1 hr => ?_)
      replace hF := hF.rely K hr
      clear hr
      refine goes_oper_k rfl rfl (by k_ne) (fun K' hK => ?_)
      go_simp
      refine hK _ _ ⟨_, guar_none (fun e he => by have hm := mem_listed he; simp [go_sem, *] at hm), ?_⟩
      clear hK K'
      refine Walks.stop fun W5 hr => ?_
      replace hF := hF.rely K hr
      clear hr
      have hF' := fun d => hF.rely K (W1 := W5.at d) ⟨Nat.le_refl _, fun _ _ _ => rfl, rfl, rfl, rfl⟩
      refine HGo.here (dd := wkCall Y.Wg k.b7 k.b8 k.b5) rfl rfl (by k_ne) (fun w => by rw [Q.P]; simp [go_sem, wkCall]) rfl (fun w => by rw [Q.P]; simp [listed, go_sem, seen_none])
        (fun d => wk_goes K Q.P Q.S Q.done Q.num Q.s7 Q.s8 Q.s5 Q.cell Y.F.M (W5.at d) ⟨(hF' d).w.env, fun b z => z.elim False.elim fun z => (hF' d).w.lt b (.inr z)⟩) (fun d => ?_)
      · skip
        have hF := hF' d
        clear hF'
        generalize W5.at d = W6 at hF ⊢
        refine GoesJ.bindJ (S1 := fun O1 g W => O1 = O' ∧ OfFacts Y.F Env O' W ∧ ∃ x, g = ofHead k (s + 1) x cs) (fun O1 g W _ q => by obtain ⟨rfl, hF, x, rfl⟩ := q; exact ih (s + 1) x W (by omega) hF) (GoesJ.of (J := Y.F.J) ?_)
        have hw : IntKind.i64.wrap ((s : Int) + 1) = ((s + 1 : Nat) : Int) := by rw [IntKind.wrap_i64]; omega
        rw [Q.P]
        walk_nrm
        refine Walks.idle rfl (fun _ => stepG_region_end) ?_
        refine Walks.idle rfl (fun _ => stepG_inBlock) ?_
        refine Walks.idle rfl (fun _ => stepG_region) ?_
        simp only [List.size_toArray, List.length_cons, List.length_nil, Nat.reduceAdd, Nat.zero_add, List.range, List.range.loop]
        refine walks_goes rfl (fun W1 hr => ?_)
        replace hF := hF.rely K hr
        clear hr
        refine goes_oper_k rfl rfl (by k_ne) (fun K' hK => ?_)
        go_simp
        refine hK _ _ ⟨_, guar_none (fun e he => by have hm := mem_listed he; simp [go_sem, *] at hm), ?_⟩
        clear hK K'
        refine walks_goes rfl (fun W1 hr => ?_)
        replace hF := hF.rely K hr
        clear hr
        refine goes_oper_k rfl rfl (by k_ne) (fun K' hK => ?_)
        go_simp
        refine hK _ _ ⟨_, guar_none (fun e he => by have hm := mem_listed he; simp [go_sem, *] at hm), ?_⟩
        clear hK K'
        refine Walks.idle rfl (fun _ => stepG_region_end) ?_
        refine Walks.idle rfl (fun _ => stepG_inLoop) ?_
        refine Walks.stop fun _ hr => ⟨rfl, hF.rely K hr, #[undef, undef, undef, x.getD 3 undef, x.getD 4 undef, undef, undef, undef, undef, undef, undef, undef, undef, undef, undef, undef, undef, x.getD 17 undef, .tuple #[], .func (.func 26) #[] #[.pointer (some ⟨Y.Wg, 0, none⟩), .pointer (some ⟨k.b7, 0, none⟩), .pointer (some ⟨k.b8, 0, none⟩), .pointer (some ⟨k.b5, 0, none⟩)], .int .i64 (s + 1), x.getD 21 undef, x.getD 22 undef, x.getD 23 undef, x.getD 24 undef, x.getD 25 undef, x.getD 26 undef, x.getD 27 undef], ?_⟩
        simp [ofHead, ofT, ofC, ofR, Tryd.f13, kwg]
    · have hc : ((s : Nat) : Int) < (k.c : Int) := by omega
      have kwg := Q.wg
      clear ih hs
      rw [Q.P]
      unfold ofHead ofT
      simp only [ofC, ofR, Tryd.f13]
      refine Walks.idle rfl (fun _ => stepG_seq) ?_
      refine Walks.idle rfl (fun _ => stepG_region) ?_
      simp only [List.size_toArray, List.length_cons, List.length_nil, Nat.zero_add, List.range, List.range.loop]
      refine walks_goes rfl (fun W1 hr => ?_)
      replace hF := hF.rely K hr
      clear hr
      refine goes_oper_k rfl rfl (by k_ne) (fun K' hK => ?_)
      go_simp
      refine hK _ _ ⟨_, guar_none (fun e he => by have hm := mem_listed he; simp [go_sem, *] at hm), ?_⟩
      clear hK K'
      refine Walks.idle rfl (fun _ => stepG_region_end) ?_
      refine Walks.idle rfl (fun _ => stepG_seq) ?_
      refine Walks.idle rfl (fun _ => stepG_cond (t := true) rfl) ?_
      simp only [if_true]
      refine Walks.idle rfl (fun _ => stepG_skip) ?_
      refine Walks.idle rfl (fun _ => stepG_seq) ?_
      refine Walks.idle rfl (fun _ => stepG_block) ?_
      refine Walks.idle rfl (fun _ => stepG_seq) ?_
      refine Walks.idle rfl (fun _ => stepG_region) ?_
      simp only [List.size_toArray, List.length_cons, List.length_nil, Nat.zero_add, List.range, List.range.loop]
      refine walks_goes rfl (fun W1 hr => ?_)
      replace hF := hF.rely K hr
      clear hr
      refine goes_call rfl rfl (by k_ne) rfl Tryd.func25 (nm_add lk) rfl ⟨_, Guar.refl _ _ _, ?_⟩
      refine Walks.stop fun W5 hr => ⟨rfl, hF.rely K hr, #[undef, undef, undef, x.getD 3 undef, x.getD 4 undef, undef, undef, undef, undef, undef, undef, undef, undef, undef, undef, undef, undef, .bool true, x.getD 18 undef, x.getD 19 undef, x.getD 20 undef, x.getD 21 undef, x.getD 22 undef, x.getD 23 undef, x.getD 24 undef, x.getD 25 undef, x.getD 26 undef, x.getD 27 undef], ?_⟩
      rw [show lk.add = 25 from rfl, enter_at _ Tryd.func25 rfl]
      simp [ofAdd, ofT, ofOps5, ofC6, ofC7, ofC, ofR, Tryd.f13, Act.eval, kwg]
end of
end Go.Proofs.YtmbfdhekplnoaaaDoor
