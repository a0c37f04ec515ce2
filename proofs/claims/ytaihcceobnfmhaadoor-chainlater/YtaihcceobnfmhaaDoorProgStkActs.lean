/-
  The program's stakes by their contracts: what is done with all bakers.
-/
import Derived.Test.YtaihcceobnfmhaaDoorProgStkOne
import Derived.OwnWalk
namespace Go.Proofs.YtaihcceobnfmhaaDoor
open Go.RowKit Go.Maps

theorem Tryd.infoBk : (Tryd.prog.info? 69).map (fun i => (i.zero, i.size, i.bytes)) = some (some (.pointer none), 1, 8) := by kernel_rfl
/-- who is registered, of the first ones -/
def regs (S : Sk) (k : Nat) : List Nat := (List.range k).filter fun i => S.R i
theorem regs_yes {S : Sk} {k : Nat} (h : S.R k = true) : regs S (k + 1) = regs S k ++ [k] := by simp [regs, List.range_succ, h]
theorem regs_no {S : Sk} {k : Nat} (h : S.R k = false) : regs S (k + 1) = regs S k := by simp [regs, List.range_succ, h]
theorem regs_len (S : Sk) (k : Nat) : (regs S k).length ≤ k := by
  have := List.length_filter_le (fun i : Nat => S.R i) (List.range k)
  rw [List.length_range] at this
  exact this
theorem regs_nodup (S : Sk) (k : Nat) : (regs S k).Nodup := List.Nodup.sublist (List.filter_sublist) (List.nodup_range)
theorem regs_mem {S : Sk} {k i : Nat} : i ∈ regs S k ↔ i < k ∧ S.R i = true := by simp [regs]
def prow (bb : Int → Nat) (L : List Nat) : List Value := L.map fun i : Nat => .pointer (some ⟨bb i, 0, none⟩)
theorem prow_snoc (bb : Int → Nat) (L : List Nat) (k : Nat) : prow bb (L ++ [k]) = prow bb L ++ [.pointer (some ⟨bb k, 0, none⟩)] := by simp [prow]
theorem grown_below {B : Nat} {w w' : World} {row : Option Nat} (h : w.grownBy w' row) (hr : ∀ j, row = some j → B ≤ j) (hB : B ≤ w.heap.size) : Below B w w' :=
  ⟨h.os, h.tape, h.output, h.size, fun k hk => h.block k (by omega) (fun e => by have := hr k e.symm; omega)⟩

/-- an array's element, at the operation -/
theorem wpList_index_run {P : Program} {w : World} {ops : Array Oper} {rest : List Oper} {o : Oper} {a : Act} {Q : Exit → Act → World → Prop} (hg : o.guard = none) (x i : Operand) (t : TypeId) (hop : o.op = Op.index t x i) (vx vi v : Value) (hx : a.eval x = vx) (hi : a.eval i = vi) (hrun : (Instr.index t vx vi).run P w = .ok v w)
    (h : wpList P ops Q rest (a.put o.dst v) w) : wpList P ops Q (o :: rest) a w := by
  refine wpList_plain hg fun K' hK' => ?_
  unfold Oper.wp
  simp [execOp, hop, hx, hi, hrun, Result.andThen]
  exact hK' _ _ h
theorem ix_0 (a b c : Option Addr) (w : World) : (Instr.index 70 (.agg #[.pointer a, .pointer b, .pointer c]) (.int .i64 ((0 : Nat) : Int))).run Tryd.prog w = .ok (.pointer a) w := by kernel_rfl
theorem ix_1 (a b c : Option Addr) (w : World) : (Instr.index 70 (.agg #[.pointer a, .pointer b, .pointer c]) (.int .i64 ((1 : Nat) : Int))).run Tryd.prog w = .ok (.pointer b) w := by kernel_rfl
theorem ix_2 (a b c : Option Addr) (w : World) : (Instr.index 70 (.agg #[.pointer a, .pointer b, .pointer c]) (.int .i64 ((2 : Nat) : Int))).run Tryd.prog w = .ok (.pointer c) w := by kernel_rfl
/-! bakers that are done -/
def dn (L : List Nat) : Int → Bool := fun b => L.any fun x => decide ((x : Int) = b)
theorem dn_true {L : List Nat} {b : Int} : dn L b = true ↔ ∃ x, x ∈ L ∧ (x : Int) = b := by simp [dn]
theorem dn_nil (b : Int) : dn [] b = false := rfl
theorem dn_snoc (L : List Nat) (k : Nat) : dn (L ++ [k]) = set1 (dn L) k true := by
  funext b
  by_cases e : b = k
  · subst e; rw [set1_same]; simp [dn]
  · rw [set1_other _ _ _ _ e]
    simp [dn, Ne.symm e]
theorem dn_new {L : List Nat} {k : Nat} (h : k ∉ L) : dn L k = false := by
  cases e : dn L k with
  | false => rfl
  | true =>
    obtain ⟨x, hx, e2⟩ := dn_true.1 e
    have : x = k := by omega
    exact absurd (this ▸ hx) h
theorem take_next {L : List Nat} {i k : Nat} (h : L[i]? = some k) : L.take (i + 1) = L.take i ++ [k] := by
  obtain ⟨hi, rfl⟩ := List.getElem?_eq_some_iff.1 h
  exact List.take_succ_eq_append_getElem hi
theorem take_new {L : List Nat} (hn : L.Nodup) {i k : Nat} (h : L[i]? = some k) : k ∉ L.take i := by
  obtain ⟨hi, rfl⟩ := List.getElem?_eq_some_iff.1 h
  intro g
  obtain ⟨j, hj, e⟩ := List.mem_iff_getElem.1 g
  rw [List.length_take] at hj
  rw [List.getElem_take] at e
  exact (List.pairwise_iff_getElem.1 hn) j i (by omega) hi (by omega) e
theorem dn_regs {S : Sk} (hS : S.Ok) (b : Int) : dn (regs S 3) b = S.R b := by
  cases hr : S.R b with
  | true =>
    have := hS.rin b hr
    obtain ⟨k, rfl⟩ : ∃ k : Nat, b = k := ⟨b.toNat, by omega⟩
    exact dn_true.2 ⟨k, regs_mem.2 ⟨by omega, hr⟩, rfl⟩
  | false =>
    cases e : dn (regs S 3) b with
    | false => rfl
    | true =>
      obtain ⟨x, hx, rfl⟩ := dn_true.1 e
      rw [(regs_mem.1 hx).2] at hr; cases hr
/-- all that is in bakers that are done -/
def totD (S : Sk) (d : Int → Bool) : Int := (if d 0 = true then (S.P 0).T else 0) + (if d 1 = true then (S.P 1).T else 0) + (if d 2 = true then (S.P 2).T else 0) + sumD S.K d fun b c => (S.W b c).T
theorem totD_step {S : Sk} {d : Int → Bool} {b : Int} (hb : Bk b) (hd : d b = false) : totD S (set1 d b true) = totD S d + (S.P b).T + sumK S.K fun b' c' => if b' = b then (S.W b' c').T else 0 := by
  unfold totD
  rw [sumD_step hd]
  have h3 : b = 0 ∨ b = 1 ∨ b = 2 := by omega
  have n0 : (if false = true then (S.P b).T else 0) = 0 := rfl
  rcases h3 with rfl | rfl | rfl
  · rw [set1_same, set1_other d 0 true 1 (by omega), set1_other d 0 true 2 (by omega), if_pos rfl, hd, n0]; omega
  · rw [set1_same, set1_other d 1 true 0 (by omega), set1_other d 1 true 2 (by omega), if_pos rfl, hd, n0]; omega
  · rw [set1_same, set1_other d 2 true 0 (by omega), set1_other d 2 true 1 (by omega), if_pos rfl, hd, n0]; omega
theorem totD_start (S : Sk) : totD S (dn []) = 0 := by
  unfold totD
  rw [sumD_start dn_nil]
  rfl
theorem totD_end {S : Sk} (hS : S.Ok) : totD S (dn (regs S 3)) = S.total := by
  unfold totD Sk.total
  rw [sumD_end (fun k hk => by rw [dn_regs hS]; exact (hS.kin k hk).1)]
  have e : ∀ b, (if dn (regs S 3) b = true then (S.P b).T else 0) = (S.P b).T := fun b => by
    rw [dn_regs hS]
    cases hr : S.R b with
    | true => exact if_pos rfl
    | false => rw [hS.pout b hr]; rfl
  rw [e, e, e]
theorem totD_bd {S : Sk} (hS : S.Ok) (hK : S.K.length ≤ 900) (d : Int → Bool) : 0 ≤ totD S d ∧ totD S d ≤ 1016687615878889472 := by
  have b := sumD_bd (K := S.K) (d := d) (f := fun b c => (S.W b c).T) (M := 1125899906842624) (by decide) (fun b c => ⟨(hS.wok b c).t0, (hS.wok b c).t1⟩)
  have p : ∀ b, 0 ≤ (if d b = true then (S.P b).T else 0) ∧ (if d b = true then (S.P b).T else 0) ≤ 1125899906842624 := fun b => by
    have := (hS.pok b).t0
    have := (hS.pok b).t1
    split <;> omega
  have p0 := p 0
  have p1 := p 1
  have p2 := p 2
  unfold totD
  omega
/-- a slice of bakers -/
theorem prow_at {w : World} {B n : Nat} {v : Value} {bb : Int → Nat} {L : List Nat} (h : w.ownsRow B 69 1 v n (prow bb L)) (hn : n = L.length) : ∃ a cap, v = .slice a n cap ∧ ∀ i k : Nat, L[i]? = some k → ∃ x, a = some ⟨x, 0, none⟩ ∧ B ≤ x ∧ w.cell? ⟨x, i, none⟩ = some (.pointer (some ⟨bb k, 0, none⟩)) := by
  rcases h.2 with ⟨e, h0⟩ | ⟨x, cap, cur, e, hb, _⟩
  · refine ⟨none, 0, by rw [e, h0], fun i k hk => ?_⟩
    have := (List.getElem?_eq_some_iff.1 hk).1
    omega
  · refine ⟨_, cap, e, fun i k hk => ⟨x, rfl, hb, ?_⟩⟩
    have c := h.cells (g := x) (by rw [e]; rfl) i (.pointer (some ⟨bb k, 0, none⟩)) (by simp [prow, hk])
    have e2 : ((⟨x, 0, none⟩ : Addr).add i) = ⟨x, i, none⟩ := by
      simp [Addr.add]
      intro e
      exact e.symm
    rw [e2] at c
    exact c

/-! freeing -/
def frNS (S : Sk) (o cyc : Int) : Int → Int → Int := fun b c => if c + 2 < cyc then (S.W b c).leaveN o else 0
def frCS (S : Sk) (o cyc : Int) : Int → Int → Int := fun b c => if c + 2 < cyc ∧ (S.W b c).leaveC o = 0 then 1 else 0
theorem sum01 {f : Int → Int → Int} (h : ∀ b c, f b c = 0 ∨ f b c = 1) : ∀ K : List (Int × Int), sumK K f = 0 ↔ ∀ k, k ∈ K → f k.1 k.2 = 0
  | [] => ⟨fun _ k hk => (by cases hk), fun _ => rfl⟩
  | k :: l => by
    have n := sumK_nonneg (f := f) l (fun j _ => by rcases h j.1 j.2 with e | e <;> omega)
    have ih := sum01 h l
    rw [sumK_cons]
    constructor
    · intro g j hj
      have hk := h k.1 k.2
      rcases List.mem_cons.1 hj with rfl | hj
      · omega
      · exact ih.1 (by omega) j hj
    · intro g
      have := g k (List.mem_cons_self ..)
      have := ih.2 (fun j hj => g j (List.mem_cons_of_mem _ hj))
      omega
theorem frCS_01 (S : Sk) (o cyc : Int) (b c : Int) : frCS S o cyc b c = 0 ∨ frCS S o cyc b c = 1 := by unfold frCS; split <;> omega
/-- nobody has anything of what has waited, or someone has -/
theorem free_none {S : Sk} {o cyc : Int} (hb : Ow o ∧ Cy cyc) (h : sumK S.K (frCS S o cyc) = 0) : S.freeC o cyc = 4 ∧ S.freeN o cyc = 0 := by
  have hz := (sum01 (frCS_01 S o cyc) S.K).1 h
  have nl : ∀ k, k ∈ S.K → k.2 + 2 < cyc → (S.W k.1 k.2).leaveC o ≠ 0 := fun k hk h1 h2 => by
    have := hz k hk
    rw [show frCS S o cyc k.1 k.2 = 1 from if_pos ⟨h1, h2⟩] at this
    omega
  constructor
  · have hh : S.has o cyc = false := by
      unfold Sk.has
      rw [List.any_eq_false]
      intro k hk
      by_cases h1 : k.2 + 2 < cyc
      · simp [nl k hk h1]
      · simp [h1]
    unfold Sk.freeC
    rw [if_neg (fun g => g hb), hh]
    rfl
  · unfold Sk.freeN
    rw [if_neg (fun g => g hb)]
    refine sumK_zero _ fun k hk => ?_
    by_cases h1 : k.2 + 2 < cyc
    · rw [if_pos h1]; exact if_neg (nl k hk h1)
    · exact if_neg h1
theorem free_some {S : Sk} {o cyc : Int} (hb : Ow o ∧ Cy cyc) (h : sumK S.K (frCS S o cyc) ≠ 0) : S.freeC o cyc = 0 := by
  have hh : S.has o cyc = true := by
    cases e : S.has o cyc with
    | true => rfl
    | false =>
      refine absurd ((sum01 (frCS_01 S o cyc) S.K).2 fun k hk => ?_) h
      unfold Sk.has at e
      rw [List.any_eq_false] at e
      have := e k hk
      refine if_neg fun g => this ?_
      simp [g.1, g.2]
  unfold Sk.freeC
  rw [if_neg (fun g => g hb), hh]
  rfl
/-- stakes when some bakers are done -/
def Sk.freeD (S : Sk) (d : Int → Bool) (o cyc : Int) : Sk := ⟨S.R, S.P, S.K, fun b c => if d b = true then frT o cyc c (S.W b c) else S.W b c⟩
theorem freeD_start (S : Sk) (o cyc : Int) : S.freeD (dn []) o cyc = S := rfl
theorem freeD_end {S : Sk} (hS : S.Ok) {o cyc : Int} (hb : Ow o ∧ Cy cyc) : S.freeD (dn (regs S 3)) o cyc = S.free o cyc := by
  unfold Sk.free
  rw [if_neg (fun g => g hb)]
  have e : (fun b c => if dn (regs S 3) b = true then frT o cyc c (S.W b c) else S.W b c) = fun b' c' => if c' + 2 < cyc then (S.W b' c').leave o else S.W b' c' := by
    funext b c
    rw [dn_regs hS]
    cases hr : S.R b with
    | true => rfl
    | false =>
      have e0' : S.W b c = e0 := hS.wout b c (fun g => by rw [(hS.kin _ g).1] at hr; cases hr)
      rw [e0', if_neg (by decide)]
      split
      · exact (e0_leave o).symm
      · rfl
  exact congrArg (fun V => (⟨S.R, S.P, S.K, V⟩ : Sk)) e
def frGb (g : Nat) (d : Int → Bool) : Int → Nat := fun b => if d b = true then g + 4 else g
/-- a baker more is done -/
theorem PSkAt.freed {G : Int → Nat → Prop} {bb : Int → Nat} {w w' : World} {sb g : Nat} {S : Sk} {d : Int → Bool} {o cyc b : Int} (h : PSkAt G bb w sb (S.freeD d o cyc) (frGb g d)) (hr : S.R b = true)
    (hB : Bkr (G b) w' (bb b) (S.P b) (fun c => frT o cyc c (S.W b c)) (g + 4)) (hM : Moved (G b) (G b) w w') : PSkAt G bb w' sb (S.freeD (set1 d b true) o cyc) (frGb g (set1 d b true)) := by
  have t := h.turn (S' := S.freeD (set1 d b true) o cyc) hr hB hM (fun _ => rfl) rfl (funext fun c => if_pos (set1_same ..)) (fun _ _ => rfl) (fun i hi => funext fun c => by
    show (if set1 d b true i = true then frT o cyc c (S.W i c) else S.W i c) = (if d i = true then frT o cyc c (S.W i c) else S.W i c)
    rw [set1_other _ _ _ _ hi])
  rw [set1_id G b (G b) rfl] at t
  have e : set1 (frGb g d) b (g + 4) = frGb g (set1 d b true) := by
    funext i
    by_cases e : i = b
    · subst e
      rw [set1_same]
      exact (if_pos (set1_same ..)).symm
    · rw [set1_other _ _ _ _ e]
      show (if d i = true then g + 4 else g) = (if set1 d b true i = true then g + 4 else g)
      rw [set1_other _ _ _ _ e]
  rw [e] at t
  exact t
end Go.Proofs.YtaihcceobnfmhaaDoor
