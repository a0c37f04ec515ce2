/-
  The program's stakes by their contracts: what is done with all bakers.
  A row of cases, as it lies in memory.
-/
import Derived.Test.YtaihcceobnfmhaaGreatDoorProgStkOneX
import Derived.OwnWalk
import Derived.Test.YtaihcceobnfmhaaGreatDoorAidX
import Derived.Test.YtaihcceobnfmhaaGreatDoorProgPurseX
namespace Go.Proofs.YtaihcceobnfmhaaGreatDoor
open Go.RowKit Go.Maps

theorem Tryz.infoBk : (Tryz.prog.info? 88).map (fun i => (i.zero, i.size, i.bytes)) = some (some (.pointer none), 1, 8) := by kernel_rfl
/-- who is registered, of the first ones -/
def regs (S : Sk) (k : Nat) : List Nat := (List.range k).filter fun i => S.R i
theorem regs_yes {S : Sk} {k : Nat} (h : S.R k = true) : regs S (k + 1) = regs S k ++ [k] := by simp [regs, List.range_succ, h]
theorem regs_no {S : Sk} {k : Nat} (h : S.R k = false) : regs S (k + 1) = regs S k := by simp [regs, List.range_succ, h]
theorem regs_len (S : Sk) (k : Nat) : (regs S k).length ≤ k := by
  have := List.length_filter_le (fun i : Nat => S.R i) (List.range k)
  rw [List.length_range] at this
  exact this
theorem regs_nodup (S : Sk) (k : Nat) : (regs S k).Nodup := List.Nodup.sublist (List.filter_sublist) (List.nodup_range)
theorem regs_mem {S : Sk} {k i : Nat} : i ∈ regs S k ↔ i < k ∧ S.R i = true := by simp [regs]
def prow (bb : Int → Nat) (L : List Nat) : List Value := L.map fun i : Nat => .pointer (some ⟨bb i, 0, none⟩)
theorem prow_snoc (bb : Int → Nat) (L : List Nat) (k : Nat) : prow bb (L ++ [k]) = prow bb L ++ [.pointer (some ⟨bb k, 0, none⟩)] := by simp [prow]
theorem grown_below {B : Nat} {w w' : World} {row : Option Nat} (h : w.grownBy w' row) (hr : ∀ j, row = some j → B ≤ j) (hB : B ≤ w.heap.size) : Below B w w' :=
  ⟨h.os, h.tape, h.output, h.size, fun k hk => h.block k (by omega) (fun e => by have := hr k e.symm; omega)⟩

/-- an array's element, at the operation -/
theorem wpList_index_run {P : Program} {w : World} {ops : Array Oper} {rest : List Oper} {o : Oper} {a : Act} {Q : Exit → Act → World → Prop} (hg : o.guard = none) (x i : Operand) (t : TypeId) (hop : o.op = Op.index t x i) (vx vi v : Value) (hx : a.eval x = vx) (hi : a.eval i = vi) (hrun : (Instr.index t vx vi).run P w = .ok v w)
    (h : wpList P ops Q rest (a.put o.dst v) w) : wpList P ops Q (o :: rest) a w := by
  refine wpList_plain hg fun K' hK' => ?_
  unfold Oper.wp
  simp [execOp, hop, hx, hi, hrun, Result.andThen]
  exact hK' _ _ h
theorem ix_0 (a b c : Option Addr) (w : World) : (Instr.index 154 (.agg #[.pointer a, .pointer b, .pointer c]) (.int .i64 ((0 : Nat) : Int))).run Tryz.prog w = .ok (.pointer a) w := by kernel_rfl
theorem ix_1 (a b c : Option Addr) (w : World) : (Instr.index 154 (.agg #[.pointer a, .pointer b, .pointer c]) (.int .i64 ((1 : Nat) : Int))).run Tryz.prog w = .ok (.pointer b) w := by kernel_rfl
theorem ix_2 (a b c : Option Addr) (w : World) : (Instr.index 154 (.agg #[.pointer a, .pointer b, .pointer c]) (.int .i64 ((2 : Nat) : Int))).run Tryz.prog w = .ok (.pointer c) w := by kernel_rfl
set_option maxRecDepth 100000 in
set_option maxHeartbeats 2000000 in
theorem ps_registered (G : Int → Nat → Prop) (bb : Int → Nat) (sb : Nat) (S : Sk) (gb : Int → Nat) (w : World) (h : PSkAt G bb w sb S gb) :
    Calls Tryz.prog 58 #[.pointer (some ⟨sb, 0, none⟩)] w fun e w' => ∃ v, e = .returned v ∧ w'.ownsRow w.heap.size 88 1 v (regs S 3).length (prow bb (regs S 3)) ∧ Below w.heap.size w w' := by
  have x0 := h.c 0 (by omega)
  have x1 := h.c 1 (by omega)
  have x2 := h.c 2 (by omega)
  have cs : Hid (∀ k : Nat, k < 3 → S.R k = true ∨ S.R k = false) := fun k _ => by cases S.R k <;> simp
  have e0 : Hid (∀ k : Nat, S.R k = true → (if S.R k = true then some (⟨bb k, 0, none⟩ : Addr) else none) = some ⟨bb k, 0, none⟩) := fun k hk => if_pos hk
  have e1 : Hid (∀ k : Nat, S.R k = false → (if S.R k = true then some (⟨bb k, 0, none⟩ : Addr) else none) = none) := fun k hk => if_neg (by rw [hk]; decide)
  have q0 := hide (show ∀ k : Nat, k = 0 → (if S.R k = true then some (⟨bb k, 0, none⟩ : Addr) else none) = (if S.R (0 : Nat) = true then some ⟨bb (0 : Nat), 0, none⟩ else none) from fun k hk => by rw [hk])
  obtain ⟨p0, hp0⟩ : ∃ p, p = (if S.R (0 : Nat) = true then some (⟨bb (0 : Nat), 0, none⟩ : Addr) else none) := ⟨_, rfl⟩
  obtain ⟨p1, hp1⟩ : ∃ p, p = (if S.R (1 : Nat) = true then some (⟨bb (1 : Nat), 0, none⟩ : Addr) else none) := ⟨_, rfl⟩
  obtain ⟨p2, hp2⟩ : ∃ p, p = (if S.R (2 : Nat) = true then some (⟨bb (2 : Nat), 0, none⟩ : Addr) else none) := ⟨_, rfl⟩
  rw [← hp0] at x0
  rw [← hp1] at x1
  rw [← hp2] at x2
  have P0 := hide hp0
  have P1 := hide hp1
  have P2 := hide hp2
  clear hp0 hp1 hp2 q0
  obtain ⟨i0, hi, hz0, hz1, hz2⟩ := info_parts Tryz.infoBk
  go_enter Tryz.func58, Tryz.ntmps58
  go_wp2
  go_loopw [3, 5, 10] (fun v _ i wr => ∃ k : Nat, k ≤ 3 ∧ i = .int .i64 k ∧ wr.ownsRow w.heap.size 88 1 v (regs S k).length (prow bb (regs S k)) ∧ Below w.heap.size w wr) (fun _ _ i _ => 3 - (intOf i).toNat)
  case atStart => exact ⟨0, by omega, rfl, by exact World.ownsRow_nil _ _ _ _, Below.refl _ _⟩
  case round =>
    obtain ⟨k, hk, rfl, ow, hB⟩ := hrel
    have k4 : k = 0 ∨ k = 1 ∨ k = 2 ∨ k = 3 := by omega
    clear hk
    rcases k4 with rfl | rfl | rfl | rfl
    · rcases cs.out 0 (by omega) with hr | hr
      · have hp : p0 = some ⟨bb (0 : Nat), 0, none⟩ := P0.out.trans (e0.out 0 hr)
        have HR := hide (regs_yes hr)
        have len := regs_len S 0
        clear hr
        subst hp
        have N1 : ∀ j u, [Value.pointer (some ⟨bb (0 : Nat), 0, none⟩)][j]? = some u → (wr.alloc (.cells #[.pointer (some ⟨bb (0 : Nat), 0, none⟩)] 88)).cell? ((⟨wr.heap.size, 0, none⟩ : Addr).add j) = some u := fun j u hu => by
          rcases j with _ | j
          · exact (cell_new _ _ _ _ _ _ rfl rfl).trans hu
          · simp at hu
        have hb2 : w.heap.size ≤ (wr.alloc (.cells #[.pointer (some ⟨bb (0 : Nat), 0, none⟩)] 88)).heap.size := Nat.le_trans hB.size (by simp)
        go_wp2_with (first | (refine wpList_index_run rfl (.tmp 9) (.tmp 10) 154 rfl (.agg #[.pointer (some ⟨bb (0 : Nat), 0, none⟩), .pointer p1, .pointer p2]) (.int .i64 ((0 : Nat) : Int)) (.pointer (some ⟨bb (0 : Nat), 0, none⟩)) rfl rfl (ix_0 _ _ _ _) ?_) | (at_builtin; refine wpList_append_own _ rfl (.tmp 15) (.tmp 17) 96 rfl w.heap.size 88 i0 _ 1 8 Tryz.underlying96 hi hz0 hz1 hz2 rfl (by decide) u3 _ _ rfl (ow.alloc _) ⟨wr.heap.size, 0, none⟩ 1 1 [.pointer (some ⟨bb (0 : Nat), 0, none⟩)] rfl rfl N1 (by simp [Value.oneCell']) (by simp only [maxLen]; omega) (by omega) hb2 ?_; intro v' w' hown hgrow _))
        go_roundw
        case rel =>
          refine ⟨_, _, _, _, _, _, _, _, _, _, _, _, ?_, rfl⟩
          exact ⟨1, by omega, by go_num, by rw [HR.out, prow_snoc, List.length_append]; exact hown, (hB.alloc hB.size _).trans (grown_below hgrow (fun j hj => (ow.lt j hj).1) hb2)⟩
        case measure => simp [intOf]
      · have hp : p0 = none := P0.out.trans (e1.out 0 hr)
        have HR := hide (regs_no hr)
        clear hr
        subst hp
        go_wp2_with (refine wpList_index_run rfl (.tmp 9) (.tmp 10) 154 rfl (.agg #[.pointer none, .pointer p1, .pointer p2]) (.int .i64 ((0 : Nat) : Int)) (.pointer none) rfl rfl (ix_0 _ _ _ _) ?_)
        go_roundw
        case rel => exact ⟨1, by omega, by go_num, by rw [HR.out]; exact ow, hB⟩
        case measure => simp [intOf]
    · rcases cs.out 1 (by omega) with hr | hr
      · have hp : p1 = some ⟨bb (1 : Nat), 0, none⟩ := P1.out.trans (e0.out 1 hr)
        have HR := hide (regs_yes hr)
        have len := regs_len S 1
        clear hr
        subst hp
        have N1 : ∀ j u, [Value.pointer (some ⟨bb (1 : Nat), 0, none⟩)][j]? = some u → (wr.alloc (.cells #[.pointer (some ⟨bb (1 : Nat), 0, none⟩)] 88)).cell? ((⟨wr.heap.size, 0, none⟩ : Addr).add j) = some u := fun j u hu => by
          rcases j with _ | j
          · exact (cell_new _ _ _ _ _ _ rfl rfl).trans hu
          · simp at hu
        have hb2 : w.heap.size ≤ (wr.alloc (.cells #[.pointer (some ⟨bb (1 : Nat), 0, none⟩)] 88)).heap.size := Nat.le_trans hB.size (by simp)
        go_wp2_with (first | (refine wpList_index_run rfl (.tmp 9) (.tmp 10) 154 rfl (.agg #[.pointer p0, .pointer (some ⟨bb (1 : Nat), 0, none⟩), .pointer p2]) (.int .i64 ((1 : Nat) : Int)) (.pointer (some ⟨bb (1 : Nat), 0, none⟩)) rfl rfl (ix_1 _ _ _ _) ?_) | (at_builtin; refine wpList_append_own _ rfl (.tmp 15) (.tmp 17) 96 rfl w.heap.size 88 i0 _ 1 8 Tryz.underlying96 hi hz0 hz1 hz2 rfl (by decide) u3 _ _ rfl (ow.alloc _) ⟨wr.heap.size, 0, none⟩ 1 1 [.pointer (some ⟨bb (1 : Nat), 0, none⟩)] rfl rfl N1 (by simp [Value.oneCell']) (by simp only [maxLen]; omega) (by omega) hb2 ?_; intro v' w' hown hgrow _))
        go_roundw
        case rel =>
          refine ⟨_, _, _, _, _, _, _, _, _, _, _, _, ?_, rfl⟩
          exact ⟨2, by omega, by go_num, by rw [HR.out, prow_snoc, List.length_append]; exact hown, (hB.alloc hB.size _).trans (grown_below hgrow (fun j hj => (ow.lt j hj).1) hb2)⟩
        case measure => simp [intOf]
      · have hp : p1 = none := P1.out.trans (e1.out 1 hr)
        have HR := hide (regs_no hr)
        clear hr
        subst hp
        go_wp2_with (refine wpList_index_run rfl (.tmp 9) (.tmp 10) 154 rfl (.agg #[.pointer p0, .pointer none, .pointer p2]) (.int .i64 ((1 : Nat) : Int)) (.pointer none) rfl rfl (ix_1 _ _ _ _) ?_)
        go_roundw
        case rel => exact ⟨2, by omega, by go_num, by rw [HR.out]; exact ow, hB⟩
        case measure => simp [intOf]
    · rcases cs.out 2 (by omega) with hr | hr
      · have hp : p2 = some ⟨bb (2 : Nat), 0, none⟩ := P2.out.trans (e0.out 2 hr)
        have HR := hide (regs_yes hr)
        have len := regs_len S 2
        clear hr
        subst hp
        have N1 : ∀ j u, [Value.pointer (some ⟨bb (2 : Nat), 0, none⟩)][j]? = some u → (wr.alloc (.cells #[.pointer (some ⟨bb (2 : Nat), 0, none⟩)] 88)).cell? ((⟨wr.heap.size, 0, none⟩ : Addr).add j) = some u := fun j u hu => by
          rcases j with _ | j
          · exact (cell_new _ _ _ _ _ _ rfl rfl).trans hu
          · simp at hu
        have hb2 : w.heap.size ≤ (wr.alloc (.cells #[.pointer (some ⟨bb (2 : Nat), 0, none⟩)] 88)).heap.size := Nat.le_trans hB.size (by simp)
        go_wp2_with (first | (refine wpList_index_run rfl (.tmp 9) (.tmp 10) 154 rfl (.agg #[.pointer p0, .pointer p1, .pointer (some ⟨bb (2 : Nat), 0, none⟩)]) (.int .i64 ((2 : Nat) : Int)) (.pointer (some ⟨bb (2 : Nat), 0, none⟩)) rfl rfl (ix_2 _ _ _ _) ?_) | (at_builtin; refine wpList_append_own _ rfl (.tmp 15) (.tmp 17) 96 rfl w.heap.size 88 i0 _ 1 8 Tryz.underlying96 hi hz0 hz1 hz2 rfl (by decide) u3 _ _ rfl (ow.alloc _) ⟨wr.heap.size, 0, none⟩ 1 1 [.pointer (some ⟨bb (2 : Nat), 0, none⟩)] rfl rfl N1 (by simp [Value.oneCell']) (by simp only [maxLen]; omega) (by omega) hb2 ?_; intro v' w' hown hgrow _))
        go_roundw
        case rel =>
          refine ⟨_, _, _, _, _, _, _, _, _, _, _, _, ?_, rfl⟩
          exact ⟨3, by omega, by go_num, by rw [HR.out, prow_snoc, List.length_append]; exact hown, (hB.alloc hB.size _).trans (grown_below hgrow (fun j hj => (ow.lt j hj).1) hb2)⟩
        case measure => simp [intOf]
      · have hp : p2 = none := P2.out.trans (e1.out 2 hr)
        have HR := hide (regs_no hr)
        clear hr
        subst hp
        go_wp2_with (refine wpList_index_run rfl (.tmp 9) (.tmp 10) 154 rfl (.agg #[.pointer p0, .pointer p1, .pointer none]) (.int .i64 ((2 : Nat) : Int)) (.pointer none) rfl rfl (ix_2 _ _ _ _) ?_)
        go_roundw
        case rel => exact ⟨3, by omega, by go_num, by rw [HR.out]; exact ow, hB⟩
        case measure => simp [intOf]
    · go_wp2
      go_ret
      exact ⟨_, rfl, ow, hB⟩

/-! bakers that are done -/
def dn (L : List Nat) : Int → Bool := fun b => L.any fun x => decide ((x : Int) = b)
theorem dn_true {L : List Nat} {b : Int} : dn L b = true ↔ ∃ x, x ∈ L ∧ (x : Int) = b := by simp [dn]
theorem dn_nil (b : Int) : dn [] b = false := rfl
theorem dn_snoc (L : List Nat) (k : Nat) : dn (L ++ [k]) = set1 (dn L) k true := by
  funext b
  by_cases e : b = k
  · subst e; rw [set1_same]; simp [dn]
  · rw [set1_other _ _ _ _ e]
    simp [dn, Ne.symm e]
theorem dn_new {L : List Nat} {k : Nat} (h : k ∉ L) : dn L k = false := by
  cases e : dn L k with
  | false => rfl
  | true =>
    obtain ⟨x, hx, e2⟩ := dn_true.1 e
    have : x = k := by omega
    exact absurd (this ▸ hx) h
theorem take_next {L : List Nat} {i k : Nat} (h : L[i]? = some k) : L.take (i + 1) = L.take i ++ [k] := by
  obtain ⟨hi, rfl⟩ := List.getElem?_eq_some_iff.1 h
  exact List.take_succ_eq_append_getElem hi
theorem take_new {L : List Nat} (hn : L.Nodup) {i k : Nat} (h : L[i]? = some k) : k ∉ L.take i := by
  obtain ⟨hi, rfl⟩ := List.getElem?_eq_some_iff.1 h
  intro g
  obtain ⟨j, hj, e⟩ := List.mem_iff_getElem.1 g
  rw [List.length_take] at hj
  rw [List.getElem_take] at e
  exact (List.pairwise_iff_getElem.1 hn) j i (by omega) hi (by omega) e
theorem dn_regs {S : Sk} (hS : S.Ok) (b : Int) : dn (regs S 3) b = S.R b := by
  cases hr : S.R b with
  | true =>
    have := hS.rin b hr
    obtain ⟨k, rfl⟩ : ∃ k : Nat, b = k := ⟨b.toNat, by omega⟩
    exact dn_true.2 ⟨k, regs_mem.2 ⟨by omega, hr⟩, rfl⟩
  | false =>
    cases e : dn (regs S 3) b with
    | false => rfl
    | true =>
      obtain ⟨x, hx, rfl⟩ := dn_true.1 e
      rw [(regs_mem.1 hx).2] at hr; cases hr
/-- all that is in bakers that are done -/
def totD (S : Sk) (d : Int → Bool) : Int := (if d 0 = true then (S.P 0).T else 0) + (if d 1 = true then (S.P 1).T else 0) + (if d 2 = true then (S.P 2).T else 0) + sumD S.K d fun b c => (S.W b c).T
theorem totD_step {S : Sk} {d : Int → Bool} {b : Int} (hb : Bk b) (hd : d b = false) : totD S (set1 d b true) = totD S d + (S.P b).T + sumK S.K fun b' c' => if b' = b then (S.W b' c').T else 0 := by
  unfold totD
  rw [sumD_step hd]
  have h3 : b = 0 ∨ b = 1 ∨ b = 2 := by omega
  have n0 : (if false = true then (S.P b).T else 0) = 0 := rfl
  rcases h3 with rfl | rfl | rfl
  · rw [set1_same, set1_other d 0 true 1 (by omega), set1_other d 0 true 2 (by omega), if_pos rfl, hd, n0]; omega
  · rw [set1_same, set1_other d 1 true 0 (by omega), set1_other d 1 true 2 (by omega), if_pos rfl, hd, n0]; omega
  · rw [set1_same, set1_other d 2 true 0 (by omega), set1_other d 2 true 1 (by omega), if_pos rfl, hd, n0]; omega
theorem totD_start (S : Sk) : totD S (dn []) = 0 := by
  unfold totD
  rw [sumD_start dn_nil]
  rfl
theorem totD_end {S : Sk} (hS : S.Ok) : totD S (dn (regs S 3)) = S.total := by
  unfold totD Sk.total
  rw [sumD_end (fun k hk => by rw [dn_regs hS]; exact (hS.kin k hk).1)]
  have e : ∀ b, (if dn (regs S 3) b = true then (S.P b).T else 0) = (S.P b).T := fun b => by
    rw [dn_regs hS]
    cases hr : S.R b with
    | true => exact if_pos rfl
    | false => rw [hS.pout b hr]; rfl
  rw [e, e, e]
theorem totD_bd {S : Sk} (hS : S.Ok) (hK : S.K.length ≤ 900) (d : Int → Bool) : 0 ≤ totD S d ∧ totD S d ≤ 1016687615878889472 := by
  have b := sumD_bd (K := S.K) (d := d) (f := fun b c => (S.W b c).T) (M := 1125899906842624) (by decide) (fun b c => ⟨(hS.wok b c).t0, (hS.wok b c).t1⟩)
  have p : ∀ b, 0 ≤ (if d b = true then (S.P b).T else 0) ∧ (if d b = true then (S.P b).T else 0) ≤ 1125899906842624 := fun b => by
    have := (hS.pok b).t0
    have := (hS.pok b).t1
    split <;> omega
  have p0 := p 0
  have p1 := p 1
  have p2 := p 2
  unfold totD
  omega
/-- a slice of bakers -/
theorem prow_at {w : World} {B n : Nat} {v : Value} {bb : Int → Nat} {L : List Nat} (h : w.ownsRow B 88 1 v n (prow bb L)) (hn : n = L.length) : ∃ a cap, v = .slice a n cap ∧ ∀ i k : Nat, L[i]? = some k → ∃ x, a = some ⟨x, 0, none⟩ ∧ B ≤ x ∧ w.cell? ⟨x, i, none⟩ = some (.pointer (some ⟨bb k, 0, none⟩)) := by
  rcases h.2 with ⟨e, h0⟩ | ⟨x, cap, cur, e, hb, _⟩
  · refine ⟨none, 0, by rw [e, h0], fun i k hk => ?_⟩
    have := (List.getElem?_eq_some_iff.1 hk).1
    omega
  · refine ⟨_, cap, e, fun i k hk => ⟨x, rfl, hb, ?_⟩⟩
    have c := h.cells (g := x) (by rw [e]; rfl) i (.pointer (some ⟨bb k, 0, none⟩)) (by simp [prow, hk])
    have e2 : ((⟨x, 0, none⟩ : Addr).add i) = ⟨x, i, none⟩ := by
      simp [Addr.add]
      intro e
      exact e.symm
    rw [e2] at c
    exact c

set_option maxRecDepth 100000 in
set_option maxHeartbeats 4000000 in
theorem ps_total (F : Nat → Prop) (sb : Nat) (S : Sk) (hS : S.Ok) (hK : S.K.length ≤ 900) (g : Nat) (w : World) (h : PSk F w sb S g) :
    Calls Tryz.prog 21 #[.pointer (some ⟨sb, 0, none⟩)] w fun e w' => e = .returned (.int .i64 S.total) ∧ Below w.heap.size w w' := by
  obtain ⟨G, bb, hf, h⟩ := h
  have C := ps_registered G bb sb S _ w h
  have ln := regs_len S 3
  go_enter Tryz.func21, Tryz.ntmps21
  go_wp2_with fail
  refine C.mono ?_
  rintro e w1 ⟨v, rfl, ow, hB1⟩
  obtain ⟨a, cap, rfl, hrow⟩ := prow_at ow rfl
  go_wp2
  go_loopw [3, 5, 11] (fun s _ i wr => ∃ k : Nat, k ≤ (regs S 3).length ∧ i = .int .i64 k ∧ s = .int .i64 (totD S (dn ((regs S 3).take k))) ∧ Below w1.heap.size w1 wr) (fun _ _ i _ => (regs S 3).length - (intOf i).toNat)
  case atStart => exact ⟨0, by omega, rfl, by rw [List.take_zero, totD_start], Below.refl _ _⟩
  case round =>
    obtain ⟨k, hk, rfl, rfl, hB⟩ := hrel
    by_cases hlt : k < (regs S 3).length
    · obtain ⟨wo, rfl⟩ : ∃ wo, wo = wr := ⟨_, rfl⟩
      obtain ⟨b, hb⟩ : ∃ b, (regs S 3)[k]? = some b := ⟨_, List.getElem?_eq_getElem hlt⟩
      obtain ⟨hb3, hr⟩ := regs_mem.1 (List.mem_of_getElem? hb)
      obtain ⟨x, rfl, hxB, hcx⟩ := hrow k b hb
      have hcx' : wo.cell? ⟨x, k, none⟩ = some (.pointer (some ⟨bb b, 0, none⟩)) := old_cell hB hcx
      obtain ⟨tag, p, pm, wm, H, q, qm, hF, hbk, hq, h0, hcy⟩ := ((h.below hB1).below hB).bk b hr
      have c0 := hbk.c0
      have c1 := hbk.c1
      have T := prog_total p pm _ _ wo hbk.pool
      have ST := hide (totD_step (S := S) (d := dn ((regs S 3).take k)) (b := b) ⟨by omega, by omega⟩ (dn_new (take_new (regs_nodup S 3) hb)))
      have TN := hide (take_next hb)
      obtain ⟨z0, z1⟩ := totD_bd hS hK (dn ((regs S 3).take k))
      have t0 := (hS.pok b).t0
      have t1 := (hS.pok b).t1
      have HW := hide hbk.wait
      have H0 := hide h0
      have HS := hide hS
      have hn := hide hS.knd
      generalize totD S (dn ((regs S 3).take k)) = z at *
      clear hrow hcx hb hr hbk hF hcy h0 hS
      go_wp2_with (first | (go_at_call 51; refine T.mono ?_; rintro e w' ⟨rfl, hw⟩; obtain rfl := hw.symm) | (at_range; refine wpList_range_Q rfl _ 91 90 rfl Tryz.underlying91 rfl hq ?_; intro w2 cnt2 hr2 hB2))
      go_frame
      go_loopw [3, 7] (fun s _ w3 => ∃ left cnt, s = .int .i64 (z + (S.P b).T + sumB S.K b left (fun _ c => (S.W b c).T)) ∧ RangeQ w3 wm wo.heap.size H left q g cnt ∧ Below wo.heap.size wo w3) (fun _ _ w3 => w3.rangeLeft wm wo.heap.size)
      case atStart => exact ⟨H, cnt2, by rw [sumB_start (fun c hc => by rw [H0.out c hc]; rfl), Int.add_zero], hr2, hB2⟩
      case round =>
        obtain ⟨left, cnt, rfl, hrg, hB3⟩ := hrel
        have b1 := sumB_bd (K := S.K) (b := b) (left := left) (f := fun _ c => (S.W b c).T) (M := 1125899906842624) (by decide) (fun _ c => ⟨(HS.out.wok b c).t0, (HS.out.wok b c).t1⟩)
        have hKi : (S.K.length : Int) ≤ 900 := by omega
        have b3 : sumB S.K b left (fun _ c => (S.W b c).T) ≤ 1013309916158361600 := by omega
        obtain ⟨b2, _⟩ := b1
        go_wp2_with (first | (at_next; refine wpList_next_Q rfl _ rfl rfl hrg ?_ ?_) | go_in)
        · intro hl0
          have E1 := hide (sumB_end (K := S.K) (b := b) (f := fun _ c => (S.W b c).T) hl0)
          have E2 : Hid ((sumK S.K fun b' c' => if b' = (b : Int) then (S.W b c').T else 0) = sumK S.K fun b' c' => if b' = (b : Int) then (S.W b' c').T else 0) := sumK_congr _ fun k _ => by
            by_cases e : k.1 = (b : Int)
            · rw [if_pos e, if_pos e, e]
            · rw [if_neg e, if_neg e]
          clear hrg
          generalize sumB S.K b left (fun _ c => (S.W b c).T) = y at *
          go_wp2
          go_roundw
          case rel => exact ⟨k + 1, by omega, by go_num, by rw [TN.out, dn_snoc, ST.out, ← E2.out, ← E1.out], hB.trans (hB3.mono hB.size)⟩
          case measure => simp [intOf]; omega
        · intro c w4 cnt4 hwc hlc hHc hrg4 hlt4 hK4 hen
          have hB4 : Below wo.heap.size wo w4 := hB3.trans (hK4.below hB3.size (by simp))
          have hp4 := (HW.out c hHc).2.2.keptP (KeptP.of_below (F := fun _ => False) hB4) (fun g => g) (fun g => g)
          have T2 := prog_total (q c) (qm c) _ _ w4 hp4
          have u0 := (HS.out.wok b c).t0
          have u1 := (HS.out.wok b c).t1
          have SN := hide (sumB_step hn.out (b := b) (left := left) (f := fun _ c => (S.W b c).T) hlc (fun g => by rw [HS.out.wout b c g]; rfl))
          clear hp4 hB3 hK4
          generalize sumB S.K b left (fun _ c => (S.W b c).T) = y at *
          go_wp2_with (go_at_call 51; refine T2.mono ?_; rintro e w' ⟨rfl, hw⟩; obtain rfl := hw.symm)
          go_roundw
          case rel => exact ⟨but left c, cnt4, by rw [SN.out, Int.add_assoc (z + (S.P b).T)], hrg4, hB4⟩
          case measure => rw [hrg4.measure, hrg.measure]; omega
    · obtain rfl : k = (regs S 3).length := by omega
      have E := hide (totD_end hS)
      rw [List.take_length]
      clear hlt hk
      go_wp2
      go_ret
      exact ⟨ret_int E.out, hB1.trans (hB.mono hB1.size)⟩

/-! freeing -/
def frNS (S : Sk) (o cyc : Int) : Int → Int → Int := fun b c => if c + 2 < cyc then (S.W b c).leaveN o else 0
def frCS (S : Sk) (o cyc : Int) : Int → Int → Int := fun b c => if c + 2 < cyc ∧ (S.W b c).leaveC o = 0 then 1 else 0
theorem sum01 {f : Int → Int → Int} (h : ∀ b c, f b c = 0 ∨ f b c = 1) : ∀ K : List (Int × Int), sumK K f = 0 ↔ ∀ k, k ∈ K → f k.1 k.2 = 0
  | [] => ⟨fun _ k hk => (by cases hk), fun _ => rfl⟩
  | k :: l => by
    have n := sumK_nonneg (f := f) l (fun j _ => by rcases h j.1 j.2 with e | e <;> omega)
    have ih := sum01 h l
    rw [sumK_cons]
    constructor
    · intro g j hj
      have hk := h k.1 k.2
      rcases List.mem_cons.1 hj with rfl | hj
      · omega
      · exact ih.1 (by omega) j hj
    · intro g
      have := g k (List.mem_cons_self ..)
      have := ih.2 (fun j hj => g j (List.mem_cons_of_mem _ hj))
      omega
theorem frCS_01 (S : Sk) (o cyc : Int) (b c : Int) : frCS S o cyc b c = 0 ∨ frCS S o cyc b c = 1 := by unfold frCS; split <;> omega
/-- nobody has anything of what has waited, or someone has -/
theorem free_none {S : Sk} {o cyc : Int} (hb : Ow o ∧ Cy cyc) (h : sumK S.K (frCS S o cyc) = 0) : S.freeC o cyc = 4 ∧ S.freeN o cyc = 0 := by
  have hz := (sum01 (frCS_01 S o cyc) S.K).1 h
  have nl : ∀ k, k ∈ S.K → k.2 + 2 < cyc → (S.W k.1 k.2).leaveC o ≠ 0 := fun k hk h1 h2 => by
    have := hz k hk
    rw [show frCS S o cyc k.1 k.2 = 1 from if_pos ⟨h1, h2⟩] at this
    omega
  constructor
  · have hh : S.has o cyc = false := by
      unfold Sk.has
      rw [List.any_eq_false]
      intro k hk
      by_cases h1 : k.2 + 2 < cyc
      · simp [nl k hk h1]
      · simp [h1]
    unfold Sk.freeC
    rw [if_neg (fun g => g hb), hh]
    rfl
  · unfold Sk.freeN
    rw [if_neg (fun g => g hb)]
    refine sumK_zero _ fun k hk => ?_
    by_cases h1 : k.2 + 2 < cyc
    · rw [if_pos h1]; exact if_neg (nl k hk h1)
    · exact if_neg h1
theorem free_some {S : Sk} {o cyc : Int} (hb : Ow o ∧ Cy cyc) (h : sumK S.K (frCS S o cyc) ≠ 0) : S.freeC o cyc = 0 := by
  have hh : S.has o cyc = true := by
    cases e : S.has o cyc with
    | true => rfl
    | false =>
      refine absurd ((sum01 (frCS_01 S o cyc) S.K).2 fun k hk => ?_) h
      unfold Sk.has at e
      rw [List.any_eq_false] at e
      have := e k hk
      refine if_neg fun g => this ?_
      simp [g.1, g.2]
  unfold Sk.freeC
  rw [if_neg (fun g => g hb), hh]
  rfl
/-- stakes when some bakers are done -/
def Sk.freeD (S : Sk) (d : Int → Bool) (o cyc : Int) : Sk := ⟨S.R, S.P, S.K, fun b c => if d b = true then frT o cyc c (S.W b c) else S.W b c⟩
theorem freeD_start (S : Sk) (o cyc : Int) : S.freeD (dn []) o cyc = S := rfl
theorem freeD_end {S : Sk} (hS : S.Ok) {o cyc : Int} (hb : Ow o ∧ Cy cyc) : S.freeD (dn (regs S 3)) o cyc = S.free o cyc := by
  unfold Sk.free
  rw [if_neg (fun g => g hb)]
  have e : (fun b c => if dn (regs S 3) b = true then frT o cyc c (S.W b c) else S.W b c) = fun b' c' => if c' + 2 < cyc then (S.W b' c').leave o else S.W b' c' := by
    funext b c
    rw [dn_regs hS]
    cases hr : S.R b with
    | true => rfl
    | false =>
      have e0' : S.W b c = e0 := hS.wout b c (fun g => by rw [(hS.kin _ g).1] at hr; cases hr)
      rw [e0', if_neg (by decide)]
      split
      · exact (e0_leave o).symm
      · rfl
  exact congrArg (fun V => (⟨S.R, S.P, S.K, V⟩ : Sk)) e
def frGb (g : Nat) (d : Int → Bool) : Int → Nat := fun b => if d b = true then g + 4 else g
/-- a baker more is done -/
theorem PSkAt.freed {G : Int → Nat → Prop} {bb : Int → Nat} {w w' : World} {sb g : Nat} {S : Sk} {d : Int → Bool} {o cyc b : Int} (h : PSkAt G bb w sb (S.freeD d o cyc) (frGb g d)) (hr : S.R b = true)
    (hB : Bkr (G b) w' (bb b) (S.P b) (fun c => frT o cyc c (S.W b c)) (g + 4)) (hM : Moved (G b) (G b) w w') : PSkAt G bb w' sb (S.freeD (set1 d b true) o cyc) (frGb g (set1 d b true)) := by
  have t := h.turn (S' := S.freeD (set1 d b true) o cyc) hr hB hM (fun _ => rfl) rfl (funext fun c => if_pos (set1_same ..)) (fun _ _ => rfl) (fun i hi => funext fun c => by
    show (if set1 d b true i = true then frT o cyc c (S.W i c) else S.W i c) = (if d i = true then frT o cyc c (S.W i c) else S.W i c)
    rw [set1_other _ _ _ _ hi])
  rw [set1_id G b (G b) rfl] at t
  have e : set1 (frGb g d) b (g + 4) = frGb g (set1 d b true) := by
    funext i
    by_cases e : i = b
    · subst e
      rw [set1_same]
      exact (if_pos (set1_same ..)).symm
    · rw [set1_other _ _ _ _ e]
      show (if d i = true then g + 4 else g) = (if set1 d b true i = true then g + 4 else g)
      rw [set1_other _ _ _ _ e]
  rw [e] at t
  exact t
set_option maxRecDepth 100000 in
set_option maxHeartbeats 4000000 in
theorem ps_free (F : Nat → Prop) (sb : Nat) (S : Sk) (hS : S.Ok) (hK : S.K.length ≤ 900) (g : Nat) (hg : g ≤ 900000) (o c : Int) (_wo : (Lit.int .i64 o).wf = true) (_wc : (Lit.int .i64 c).wf = true) (A : Nat → Addr) (w : World) (hL : StkLaid w A) (h : PSk F w sb S g) :
    Calls Tryz.prog 165 #[.pointer (some ⟨sb, 0, none⟩), .int .i64 o, .int .i64 c] w (ActEndN F sb g (S.free o c) (S.freeN o c) (S.freeC o c) A w) := by
  have v1 := hL.v1
  have hlt := hide h.lt
  obtain ⟨G, bb, hf, h⟩ := h
  by_cases ho : Ow o
  · have I := owner_yes o ho.1 ho.2
    by_cases hc : Cy c
    · have J := cycle_yes c hc.1 hc.2
      have C := ps_registered G bb sb S _ w h
      have ln := regs_len S 3
      have HB := hide (show Ow o ∧ Cy c from ⟨ho, hc⟩)
      have fN : ∀ b' c', 0 ≤ frNS S o c b' c' ∧ frNS S o c b' c' ≤ 1125899906842624 := fun b' c' => by
        unfold frNS
        split
        · exact (hS.wok b' c').leaveN_bd o
        · omega
      have fC : ∀ b' c', 0 ≤ frCS S o c b' c' ∧ frCS S o c b' c' ≤ 1 := fun b' c' => by unfold frCS; split <;> omega
      clear ho hc
      go_enter Tryz.func165, Tryz.ntmps165
      go_wp2_with (first | (go_at_call 117; refine (I _).mono ?_; rintro e w' ⟨rfl, hw⟩; obtain rfl := hw.symm) | (go_at_call 93; refine (J _).mono ?_; rintro e w' ⟨rfl, hw⟩; obtain rfl := hw.symm))
      refine C.mono ?_
      rintro e w1 ⟨v, rfl, ow, hB1⟩
      obtain ⟨a, cap, rfl, hrow⟩ := prow_at ow rfl
      go_wp2
      go_loopw [8, 9, 26] (fun s t i wr => ∃ k : Nat, k ≤ (regs S 3).length ∧ i = .int .i64 k ∧ s = .int .i64 (sumD S.K (dn ((regs S 3).take k)) (frNS S o c)) ∧ t = .int .i64 (sumD S.K (dn ((regs S 3).take k)) (frCS S o c)) ∧
        PSkAt G bb wr sb (S.freeD (dn ((regs S 3).take k)) o c) (frGb g (dn ((regs S 3).take k))) ∧ KeptP F w1 wr ∧ PoolLaid wr A true) (fun _ _ i _ => (regs S 3).length - (intOf i).toNat)
      case atStart => exact ⟨0, by omega, rfl, by rw [List.take_zero, sumD_start dn_nil], by rw [List.take_zero, sumD_start dn_nil], by rw [List.take_zero, freeD_start]; exact h.below hB1, KeptP.refl _ _, hL.pool.below hB1⟩
      case round =>
        obtain ⟨k, hk, rfl, rfl, rfl, hP, hKp, hLr⟩ := hrel
        by_cases hlt2 : k < (regs S 3).length
        · obtain ⟨b, hb⟩ : ∃ b, (regs S 3)[k]? = some b := ⟨_, List.getElem?_eq_getElem hlt2⟩
          obtain ⟨hb3, hr⟩ := regs_mem.1 (List.mem_of_getElem? hb)
          obtain ⟨x, rfl, hxB, hcx⟩ := hrow k b hb
          have hcx' : wr.cell? ⟨x, k, none⟩ = some (.pointer (some ⟨bb b, 0, none⟩)) := hKp.old hcx (fun g => by have := hlt.out x g; omega)
          have hd := dn_new (take_new (regs_nodup S 3) hb)
          have hBk : Bkr (G b) wr (bb b) (S.P b) (S.W b) g := by
            have := hP.bk b hr
            have e1 : (S.freeD (dn ((regs S 3).take k)) o c).W b = S.W b := funext fun c' => if_neg (by rw [hd]; decide)
            have e2 : frGb g (dn ((regs S 3).take k)) b = g := if_neg (by rw [hd]; decide)
            rw [e1, e2] at this
            exact this
          have T := bk_free (G b) (bb b) g (S.P b) (S.W b) (hS.wok b) hg o c HB.out.1 HB.out.2 S.K hS.knd hK b (fun c' hc' => hS.wout b c' hc') A wr hLr hBk
          have q1 : (sumK S.K fun b' c' => if b' = (b : Int) then frN (S.W b) o c b' c' else 0) = sumK S.K fun b' c' => if b' = (b : Int) then frNS S o c b' c' else 0 := sumK_congr _ fun k _ => by
            by_cases e : k.1 = (b : Int)
            · rw [if_pos e, if_pos e]; unfold frN frNS; rw [e]
            · rw [if_neg e, if_neg e]
          have q2 : (sumK S.K fun b' c' => if b' = (b : Int) then frC (S.W b) o c b' c' else 0) = sumK S.K fun b' c' => if b' = (b : Int) then frCS S o c b' c' else 0 := sumK_congr _ fun k _ => by
            by_cases e : k.1 = (b : Int)
            · rw [if_pos e, if_pos e]; unfold frC frCS; rw [e]
            · rw [if_neg e, if_neg e]
          rw [q1, q2] at T
          have S1 := hide (sumD_step (K := S.K) (f := frNS S o c) hd)
          have S2 := hide (sumD_step (K := S.K) (f := frCS S o c) hd)
          have TN := hide (take_next hb)
          obtain ⟨z0, z1⟩ := sumD_bd (K := S.K) (d := dn ((regs S 3).take k)) (M := 1125899906842624) (by decide) fN
          obtain ⟨y0, y1⟩ := sumD_bd (K := S.K) (d := dn ((regs S 3).take k)) (M := 1) (by decide) fC
          obtain ⟨z2, z3⟩ := sumD_bd (K := S.K) (d := set1 (dn ((regs S 3).take k)) b true) (M := 1125899906842624) (by decide) fN
          obtain ⟨y2, y3⟩ := sumD_bd (K := S.K) (d := set1 (dn ((regs S 3).take k)) b true) (M := 1) (by decide) fC
          rw [S1.out] at z2 z3
          rw [S2.out] at y2 y3
          have hKi : (S.K.length : Int) ≤ 900 := by omega
          have HR := hide hr
          have HP := hide hP
          generalize sumD S.K (dn ((regs S 3).take k)) (frNS S o c) = z at *
          generalize sumD S.K (dn ((regs S 3).take k)) (frCS S o c) = y at *
          generalize (sumK S.K fun b' c' => if b' = (b : Int) then frNS S o c b' c' else 0) = z' at *
          generalize (sumK S.K fun b' c' => if b' = (b : Int) then frCS S o c b' c' else 0) = y' at *
          have z4 : z + z' ≤ 1013309916158361600 := by omega
          have y4 : y + y' ≤ 900 := by omega
          clear z3 y3 z1 y1 hKi hr hP q1 q2 hd hb hrow hcx
          go_wp2_with fail
          refine T.mono ?_
          rintro e w2 ⟨rfl, hB2, hM2, hL2⟩
          go_wp2
          go_roundw
          case rel => exact ⟨k + 1, by omega, by go_num, by rw [TN.out, dn_snoc, S1.out], by rw [TN.out, dn_snoc, S2.out], by rw [TN.out, dn_snoc]; exact HP.out.freed HR.out hB2 hM2, hKp.trans hM2.kept (fun i _ gi => (hf i).2 (.inr ⟨b, gi⟩)), hL2⟩
          case measure => simp [intOf]; omega
        · obtain rfl : k = (regs S 3).length := by omega
          rw [List.take_length] at hP
          have ED : ∀ f, sumD S.K (dn (regs S 3)) f = sumK S.K f := fun f => sumD_end (fun k hk => by rw [dn_regs hS]; exact (hS.kin k hk).1)
          rw [List.take_length, ED, ED]
          rw [freeD_end hS HB.out] at hP
          have hEnd : ∃ F', PSk F' wr sb (S.free o c) (g + 4) ∧ Moved F F' w wr := by
            refine ⟨owns G sb, hP.sk (fun b => ?_), (KeptP.of_below hB1).trans hKp (fun _ _ g => g), fun k _ gk => (hf k).2 gk⟩
            show (if dn (regs S 3) b = true then g + 4 else g) ≤ g + 4
            split <;> omega
          have FN : Hid (sumK S.K (frNS S o c) = S.freeN o c) := (if_neg (fun g => g HB.out)).symm
          have v3 := hLr.v3
          have HE := hide hEnd
          clear hlt2 hk hrow hP hEnd ED
          by_cases hz : sumK S.K (frCS S o c) = 0
          · have ez := hide (free_none HB.out hz)
            have tz : (sumK S.K (frCS S o c) == 0) = true := by simp [hz]
            clear hz
            generalize sumK S.K (frCS S o c) = y at *
            go_wp2
            go_quiet (fail)
            go_wp2
            go_ret2
            obtain ⟨F', h1, h2⟩ := HE.out
            exact ActEndN.of ez.out.2.symm (ErrIs.is 3 (by omega) ez.out.1) ⟨F', h1.keptP (G := fun _ => False) ((KeptP.refl _ _).drewN _) (fun _ g => g.elim), h2.drewN _⟩
          · have ez := hide (free_some HB.out hz)
            have tz : (sumK S.K (frCS S o c) == 0) = false := by simp [hz]
            clear hz
            generalize sumK S.K (frCS S o c) = y at *
            go_wp2
            go_ret2
            exact ActEndN.of FN.out (ErrIs.no ez.out) HE.out
    · have J := cycle_no c hc
      have e1 : Hid (S.freeC o c = 2) := if_pos (fun g => hc g.2)
      have e2 : Hid (S.freeN o c = 0) := if_pos (fun g => hc g.2)
      have e3 : Hid (S.free o c = S) := if_pos (fun g => hc g.2)
      clear ho hc
      go_enter Tryz.func165, Tryz.ntmps165
      go_wp2_with (first | (go_at_call 117; refine (I _).mono ?_; rintro e w' ⟨rfl, hw⟩; obtain rfl := hw.symm) | (go_at_call 93; refine (J _).mono ?_; rintro e w' ⟨rfl, hw⟩; obtain rfl := hw.symm))
      go_quiet (fail)
      go_wp2
      go_ret2
      exact ActEndN.of e2.out.symm (ErrIs.is 1 (by omega) e1.out) (by rw [e3.out]; exact PSk.same hf h (below_drewN (Below.refl _ _) _))
  · have I := owner_no o ho
    have e1 : Hid (S.freeC o c = 2) := if_pos (fun g => ho g.1)
    have e2 : Hid (S.freeN o c = 0) := if_pos (fun g => ho g.1)
    have e3 : Hid (S.free o c = S) := if_pos (fun g => ho g.1)
    clear ho
    go_enter Tryz.func165, Tryz.ntmps165
    go_wp2_with (go_at_call 117; refine (I _).mono ?_; rintro e w' ⟨rfl, hw⟩; obtain rfl := hw.symm)
    go_quiet (fail)
    go_wp2
    go_ret2
    exact ActEndN.of e2.out.symm (ErrIs.is 1 (by omega) e1.out) (by rw [e3.out]; exact PSk.same hf h (below_drewN (Below.refl _ _) _))
end Go.Proofs.YtaihcceobnfmhaaGreatDoor

namespace Go.Proofs.YtaihcceobnfmhaaGreatDoor
open Go.RowKit

def crow (L : List Cs) : List Value := match L with
  | [] => []
  | t :: l => .int .i64 t.1 :: .int .i64 t.2.1 :: .int .i64 t.2.2.1 :: .int .i64 t.2.2.2 :: crow l
theorem crow_len : ∀ L : List Cs, (crow L).length = L.length * 4
  | [] => rfl
  | _ :: l => by simp [crow, crow_len l]; omega
theorem crow_append (t : Cs) : ∀ L : List Cs, crow (L ++ [t]) = crow L ++ [.int .i64 t.1, .int .i64 t.2.1, .int .i64 t.2.2.1, .int .i64 t.2.2.2]
  | [] => rfl
  | _ :: l => by simp [crow, crow_append t l]
theorem crow_at : ∀ (L : List Cs) (i : Nat) (t : Cs), L[i]? = some t → (crow L)[i * 4]? = some (.int .i64 t.1) ∧ (crow L)[i * 4 + 1]? = some (.int .i64 t.2.1) ∧ (crow L)[i * 4 + 2]? = some (.int .i64 t.2.2.1) ∧ (crow L)[i * 4 + 3]? = some (.int .i64 t.2.2.2)
  | [], _, _, h => by simp at h
  | u :: l, 0, t, h => by
    have e : u = t := by simpa using h
    subst e
    exact ⟨rfl, rfl, rfl, rfl⟩
  | u :: l, i + 1, t, h => by
    have := crow_at l i t (by simpa using h)
    rw [show (i + 1) * 4 = i * 4 + 4 by omega]
    exact this
end Go.Proofs.YtaihcceobnfmhaaGreatDoor
