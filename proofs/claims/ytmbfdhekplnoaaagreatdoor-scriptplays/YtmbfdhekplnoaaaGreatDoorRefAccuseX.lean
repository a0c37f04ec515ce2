/-
  The document's chain in memory: a picture more.
  Two pieces of evidence, held against each other.
  The document's court (bakehouseref2.Court) by its contracts: evidence is brought.
-/
import Derived.Test.YtmbfdhekplnoaaaGreatDoorRefStkLeaveX
import Derived.Test.YtmbfdhekplnoaaaGreatDoorIssueMathX
import Derived.Laws.StructEq
import Derived.Test.YtmbfdhekplnoaaaGreatDoorProgPurseActsX
namespace Go.Proofs.YtmbfdhekplnoaaaGreatDoor
open Go.RowKit

theorem mrow_snoc (M : List (Nat × Nat)) (m : Nat × Nat) : mrow (M ++ [m]) = mrow M ++ [.slice (some ⟨m.1, 0, none⟩) 3 m.2] := by simp [mrow]
theorem RChAt.pictured {tag : Nat → Nat} {w w1 w2 : World} {cb pb pq sb kb : Nat} {v : Value} {M : List (Nat × Nat)} {C : Ch} (h : RChAt tag w cb pb pq sb kb v M C) {m : Nat × Nat} {W : Nat → Int} {g n cap : Nat}
    (hm : w.heap.size ≤ m.1 ∨ m ∈ M) (hB : Below w.heap.size w w1) (hI : Ints w1 m.1 0 3 W) (hn : n = C.pics.length + 1)
    (hown : w2.ownsRow 0 35 1 (.slice (some ⟨g, 0, none⟩) n cap) n (mrow M ++ [.slice (some ⟨m.1, 0, none⟩) 3 m.2])) (hgrow : w1.grownBy w2 v.ownBlock) (hat : v.ownBlock = some g ∨ w1.heap.size ≤ g) (hg : g < w2.heap.size) :
    ∃ tag', RChAt tag' (w2.setCell ⟨cb, 7, none⟩ (.slice (some ⟨g, 0, none⟩) n cap)) cb pb pq sb kb (.slice (some ⟨g, 0, none⟩) n cap) (M ++ [m]) { C with pics := C.pics ++ [W] } ∧ (∀ k, k < w.heap.size → tag' k ≠ 0 → tag k ≠ 0) ∧
      KeptP (fun k => tag k ≠ 0) w (w2.setCell ⟨cb, 7, none⟩ (.slice (some ⟨g, 0, none⟩) n cap)) := by
  have hs := hB.size
  have new : ∀ k, w.heap.size ≤ k → tag k = 0 := fun k hk => Classical.byContradiction fun e => by have := h.lt k e; omega
  have tg : tag g = 5 ∨ (tag g = 0 ∧ w1.heap.size ≤ g) := by
    rcases hat with e | e
    · exact .inl (h.tv g e)
    · exact .inr ⟨new g (by omega), e⟩
  have tmm : tag m.1 = 6 ∨ tag m.1 = 0 := hm.elim (fun e => .inr (new _ e)) (fun e => .inl (h.tm m e))
  have lm : m.1 < w1.heap.size := cell_lt (a := ⟨m.1, 0 + 0, none⟩) (hI 0 (by omega))
  have gm : g ≠ m.1 := fun e => by
    rcases tg with t | ⟨_, t⟩
    · rw [e] at t; omega
    · omega
  have gc : g ≠ cb := fun e => by
    have := h.tc
    rcases tg with t | ⟨t, _⟩
    · rw [e] at t; omega
    · rw [e] at t; omega
  have mc : m.1 ≠ cb := fun e => by have := h.tc; rw [e] at tmm; omega
  have kp : KeptP (fun k => tag k = 5) w w2 := (KeptP.of_below (F := fun k => tag k = 5) hB).trans (G := fun k => v.ownBlock = some k) ⟨hgrow.os, hgrow.tape, hgrow.output, hgrow.size, fun k hk hx => hgrow.block k hk (fun e => hx e.symm)⟩ (fun k _ e => h.tv k e)
  have kc : KeptP (fun k => k = cb) w2 (w2.setCell ⟨cb, 7, none⟩ (.slice (some ⟨g, 0, none⟩) n cap)) := (KeptP.refl (fun k => k = cb) w2).setCell (p := ⟨cb, 7, none⟩) rfl _
  have k3 : KeptP (fun k => tag k = 5 ∨ tag k = 1) w (w2.setCell ⟨cb, 7, none⟩ (.slice (some ⟨g, 0, none⟩) n cap)) := (kp.mono (fun _ _ e => .inl e)).trans kc (fun k _ e => .inr (by rw [e]; exact h.tc))
  have n5 : ¬ tag cb = 5 := by rw [h.tc]; decide
  have np : ¬ (tag pb = 5 ∨ tag pb = 1) := by rw [h.tp]; decide
  have nq : ¬ (tag pq = 5 ∨ tag pq = 1) := by rw [h.tq]; decide
  have lcb : cb < w.heap.size := cell_lt h.c0
  have lp := cell_lt h.p.c0
  have lq := cell_lt (h.p.s 0 (by omega))
  have far : ∀ {j : Nat} {u : Value}, j ≠ 7 → w.cell? ⟨cb, j, none⟩ = some u → (w2.setCell ⟨cb, 7, none⟩ (.slice (some ⟨g, 0, none⟩) n cap)).cell? ⟨cb, j, none⟩ = some u := fun {j u} ne e => by
    rw [World.cell?_setCell_other _ _ _ _ (fun z => absurd (congrArg Addr.off z) (fun z => ne z.symm))]; exact kp.old e n5
  have same : ∀ u, u ≠ 0 → u ≠ 5 → u ≠ 6 → (fun k => (if k = g then 5 else if k = m.1 then 6 else tag k) = u) = (fun k => tag k = u) := fun u u0 u5 u6 => by
    funext k
    refine propext ⟨fun e => ?_, fun e => ?_⟩
    · by_cases e1 : k = g
      · rw [if_pos e1] at e; exact absurd e.symm u5
      · rw [if_neg e1] at e
        by_cases e2 : k = m.1
        · rw [if_pos e2] at e; exact absurd e.symm u6
        · rw [if_neg e2] at e; exact e
    · have e1 : k ≠ g := fun z => by rw [z] at e; omega
      have e2 : k ≠ m.1 := fun z => by rw [z] at e; omega
      rw [if_neg e1, if_neg e2]; exact e
  have at1 : ∀ {k u}, u ≠ 0 → u ≠ 5 → u ≠ 6 → tag k = u → (if k = g then 5 else if k = m.1 then 6 else tag k) = u := fun {k u} a b c e => by
    have := congrFun (same u a b c) k
    exact this.mpr e
  refine ⟨fun k => if k = g then 5 else if k = m.1 then 6 else tag k, ?_, fun k hk ht => ?_, k3.mono (fun k _ e => by omega)⟩
  · exact { c0 := far (by omega) h.c0, c1 := far (by omega) h.c1, c2 := far (by omega) h.c2, c3 := far (by omega) h.c3, c4 := far (by omega) h.c4, c5 := far (by omega) h.c5, c6 := far (by omega) h.c6
            c7 := World.cell?_setCell_same _ _ _ (kp.old h.c7 n5)
            f := fun i => by rw [World.frozen?_setCell, kp.frozen (p := ⟨cb, i, none⟩) lcb n5]; exact h.f i
            p := ⟨k3.old h.p.c0 np, k3.old h.p.c1 np, fun i hi => k3.old (h.p.s i hi) nq, by rw [k3.frozen (p := ⟨pb, 1, none⟩) lp np]; exact h.p.f1, fun i hi => by rw [k3.frozen (p := ⟨pq, i, none⟩) lq nq]; exact h.p.fs i hi, h.p.ne⟩
            s := by rw [same 3 (by decide) (by decide) (by decide)]; exact h.s.keptP k3 fun k e z => by omega
            c := by rw [same 4 (by decide) (by decide) (by decide)]; exact h.c.keptP k3 fun k e z => by omega
            own := by
              have e : (C.pics ++ [W]).length = n := by rw [List.length_append, hn]; rfl
              show World.ownsRow _ _ _ _ _ (C.pics ++ [W]).length _
              rw [e, mrow_snoc]
              exact ownsRow_keptP hown kc fun q e2 z => by
                have : g = q := by simpa [Value.ownBlock] using e2
                omega
            pic := fun i m' W' hm' hW' j hj => by
              have lenM := h.lenM
              rcases Nat.lt_or_ge i M.length with l | l
              · rw [List.getElem?_append_left l] at hm'
                have hW2 : (C.pics ++ [W])[i]? = some W' := hW'
                rw [List.getElem?_append_left (by omega)] at hW2
                have t6 := h.tm m' (List.mem_of_getElem? hm')
                exact k3.old (h.pic i m' W' hm' hW2 j hj) (show ¬ (tag m'.1 = 5 ∨ tag m'.1 = 1) by omega)
              · have li : i < (M ++ [m]).length := (List.getElem?_eq_some_iff.1 hm').1
                rw [List.length_append] at li
                have ei : i = M.length := by have : [m].length = 1 := rfl; omega
                subst ei
                rw [List.getElem?_append_right (Nat.le_refl _), Nat.sub_self] at hm'
                obtain rfl : m = m' := by simpa using hm'
                have hW2 : (C.pics ++ [W])[M.length]? = some W' := hW'
                rw [lenM, List.getElem?_append_right (Nat.le_refl _), Nat.sub_self] at hW2
                obtain rfl : W = W' := by simpa using hW2
                have c1 : w2.cell? ⟨m.1, 0 + j, none⟩ = some (.int .i64 (W j)) := by
                  have e := hgrow.block m.1 lm (fun e => by
                    have t5 := h.tv m.1 e.symm
                    omega)
                  rw [World.cell?_of_block (w := w1) (a := ⟨m.1, 0 + j, none⟩) e]
                  exact hI j hj
                rw [World.cell?_setCell_other _ _ _ _ (fun z => mc (congrArg Addr.block z).symm)]
                exact c1
            tc := at1 (by decide) (by decide) (by decide) h.tc, tp := at1 (by decide) (by decide) (by decide) h.tp, tq := at1 (by decide) (by decide) (by decide) h.tq
            tv := fun q e => by
              have : g = q := by simpa [Value.ownBlock] using e
              show (if q = g then 5 else if q = m.1 then 6 else tag q) = 5
              rw [if_pos this.symm]
            tm := fun m' hm' => by
              show (if m'.1 = g then 5 else if m'.1 = m.1 then 6 else tag m'.1) = 6
              rcases List.mem_append.1 hm' with e | e
              · have t6 := h.tm m' e
                have e1 : m'.1 ≠ g := fun z => by rw [z] at t6; omega
                rw [if_neg e1]
                split
                · rfl
                · exact t6
              · rw [List.mem_singleton.1 e, if_neg gm.symm, if_pos rfl]
            lt := fun k hk => by
              have hk' : (if k = g then 5 else if k = m.1 then 6 else tag k) ≠ 0 := hk
              have sz : (w2.setCell ⟨cb, 7, none⟩ (.slice (some ⟨g, 0, none⟩) n cap)).heap.size = w2.heap.size := by simp [World.setCell]
              rw [sz]
              have := hgrow.size
              by_cases e1 : k = g
              · rw [e1]; exact hg
              · rw [if_neg e1] at hk'
                by_cases e2 : k = m.1
                · omega
                · rw [if_neg e2] at hk'
                  have := h.lt k hk'
                  omega }
  · have ht' : (if k = g then 5 else if k = m.1 then 6 else tag k) ≠ 0 := ht
    by_cases e1 : k = g
    · rcases tg with t | ⟨_, t⟩
      · rw [e1, t]; decide
      · omega
    · rw [if_neg e1] at ht'
      by_cases e2 : k = m.1
      · rcases hm with t | t
        · omega
        · rw [e2, h.tm m t]; decide
      · rw [if_neg e2] at ht'; exact ht'
end Go.Proofs.YtmbfdhekplnoaaaGreatDoor

namespace Go.Proofs.YtmbfdhekplnoaaaGreatDoor
open Go.RowKit

theorem Tryz.fieldsEv : (Tryz.prog.fieldsOf 91) = #[⟨ "Baker", 3, 0, false, "", "", 0⟩, ⟨ "Cycle", 3, 1, false, "", "", 8⟩, ⟨ "Number", 3, 2, false, "", "", 16⟩] := by kernel_rfl
theorem ev_guard (op : BinOp) (x y : Operand) (xs ys : Array Value) (w : World) : (eqGuard op 91 x y (.agg xs) (.agg ys)).run Tryz.prog w = .ok () w := run_eqGuard_agg w op 91 x y xs ys (by kernel_rfl)
theorem ev_eql (a1 a2 a3 b1 b2 b3 : Int) (w : World) : (binOp .eql 91 (.agg #[.int .i64 a1, .int .i64 a2, .int .i64 a3]) (.agg #[.int .i64 b1, .int .i64 b2, .int .i64 b3])).run Tryz.prog w = .ok (.bool (decide ((a1, a2, a3) = (b1, b2, b3)))) w := by
  have h1 : Tryz.prog.underlying 91 = some (.struct (Tryz.prog.fieldsOf 91)) := by kernel_rfl
  have h2 : Tryz.prog.stoodInHeld 91 = false := by kernel_rfl
  rw [run_eql_struct, run_equalIn_agg w 9999 91 _ _ h1 h2, Tryz.fieldsEv]
  have e : ∀ (d : Nat) (x y : Int) (w : World), (Op.equalIn (d + 1) 3 (.int .i64 x) (.int .i64 y)).run Tryz.prog w = .ok (x == y) w := fun d x y w => run_equalIn_int w d 3 .i64 .i64 x y Tryz.underlying3
  simp [Op.eqFields, e 9998, go_sem]
  by_cases c1 : a1 = b1 <;> by_cases c2 : a2 = b2 <;> by_cases c3 : a3 = b3 <;> simp [c1, c2, c3]
end Go.Proofs.YtmbfdhekplnoaaaGreatDoor

namespace Go.Proofs.YtmbfdhekplnoaaaGreatDoor
open Go.RowKit

theorem Tryz.infoCase : (Tryz.prog.info? 150).map (fun i => (i.zero, i.size, i.bytes)) = some (some (.agg #[.int .i64 0, .int .i64 0, .int .i64 0, .int .i64 0]), 4, 32) := by kernel_rfl
theorem RCtAt.placed {w1 w2 : World} {cb : Nat} {v : Value} {x : Ct} (h : RCtAt w1 cb v x) {g cap : Nat} (t : Cs)
    (own : w2.ownsRow 0 150 4 (.slice (some ⟨g, 0, none⟩) (x.L.length + 1) cap) (x.L.length + 1) (crow x.L ++ [.int .i64 t.1, .int .i64 t.2.1, .int .i64 t.2.2.1, .int .i64 t.2.2.2])) (hg : w1.grownBy w2 v.ownBlock) (hat : v.ownBlock = some g ∨ w1.heap.size ≤ g) :
    RCtAt (w2.setCell ⟨cb, 0, none⟩ (.slice (some ⟨g, 0, none⟩) (x.L.length + 1) cap)) cb (.slice (some ⟨g, 0, none⟩) (x.L.length + 1) cap) ⟨x.L ++ [t], x.done⟩ := by
  have hK1 : KeptP (fun k => v.ownBlock = some k) w1 w2 := ⟨hg.os, hg.tape, hg.output, hg.size, fun k hk z => hg.block k hk fun e => z e.symm⟩
  have lc := cell_lt h.c0
  have gc : g ≠ cb := by
    rcases hat with a | a
    · exact fun e => h.tv (e ▸ a)
    · exact fun e => by subst e; exact absurd lc (Nat.not_lt.2 a)
  have hK2 : KeptP (fun k => k = cb) w2 (w2.setCell ⟨cb, 0, none⟩ (.slice (some ⟨g, 0, none⟩) (x.L.length + 1) cap)) := KeptP.setCell (F := fun k => k = cb) (KeptP.refl _ _) (p := ⟨cb, 0, none⟩) rfl _
  refine ⟨World.cell?_setCell_same _ _ _ (hK1.old h.c0 h.tv), ?_, ?_, ?_, ?_, fun e => ?_⟩
  · rw [World.cell?_setCell_other _ _ _ _ (by simp)]; exact hK1.old h.c1 h.tv
  · rw [World.frozen?_setCell, hK1.frozen (p := ⟨cb, 0, none⟩) lc h.tv]; exact h.f0
  · rw [World.frozen?_setCell, hK1.frozen (p := ⟨cb, 1, none⟩) lc h.tv]; exact h.f1
  · show World.ownsRow _ 0 _ 4 _ (x.L ++ [t]).length (crow (x.L ++ [t]))
    rw [List.length_append, crow_append]
    exact ownsRow_keptP own hK2 fun k e => by cases e; exact gc
  · cases e; exact gc rfl
set_option maxRecDepth 100000 in
set_option maxHeartbeats 2000000 in
theorem rc_accuse (F : Nat → Prop) (cb : Nat) (x : Ct) (_hx : x.Ok) (hl : x.L.length ≤ 900) (o b y m c : Int) (w : World) (h : RCt F w cb x) (h1 : AccIn o (b, y, m) c) (h2 : AccNow (b, y, m) c) :
    Calls Tryz.prog 41 #[.pointer (some ⟨cb, 0, none⟩), .int .i64 o, .agg #[.int .i64 b, .int .i64 y, .int .i64 m], .int .i64 c] w fun e w' => e = .returned (.int .i64 (x.accC o (b, y, m) c)) ∧ ∃ F', RCt F' w' cb (x.acc o (b, y, m) c) ∧ Moved F F' w w' := by
  obtain ⟨v, hF, h⟩ := h
  have I := isOwner_yes o h1.1.1 h1.1.2
  have A1 := hide h1
  have A2 := hide h2
  obtain ⟨_, ⟨b0, b3⟩, m0, c0, c1⟩ := h1
  obtain ⟨y0, yc, yc2⟩ := h2
  simp only [] at b0 b3 m0 y0 yc yc2
  obtain ⟨a, cap, rfl⟩ := h.shape
  have hB : Below w.heap.size w (w.alloc (.cells #[.int .i64 b, .int .i64 y, .int .i64 m] 91)) := (Below.refl _ _).alloc (Nat.le_refl _) _
  have h4 := h.keptP (KeptP.of_below (F := fun _ => False) hB) (fun g => g) (fun _ _ g => g)
  have s0 : (w.alloc (.cells #[.int .i64 b, .int .i64 y, .int .i64 m] 91)).cell? ⟨w.heap.size, 0, none⟩ = some (.int .i64 b) := by simp
  have s1 : (w.alloc (.cells #[.int .i64 b, .int .i64 y, .int .i64 m] 91)).cell? ⟨w.heap.size, 1, none⟩ = some (.int .i64 y) := by simp
  have s2 : (w.alloc (.cells #[.int .i64 b, .int .i64 y, .int .i64 m] 91)).cell? ⟨w.heap.size, 2, none⟩ = some (.int .i64 m) := by simp
  have MW : Hid (KeptP F w (w.alloc (.cells #[.int .i64 b, .int .i64 y, .int .i64 m] 91))) := KeptP.of_below hB
  go_enter Tryz.func41, Tryz.ntmps41
  go_wp2_with (go_at_call 107; refine (I _).mono ?_; rintro e w' ⟨rfl, rfl⟩)
  generalize hne : w.heap.size = ne at s0 s1 s2 ⊢
  generalize w.alloc (.cells #[.int .i64 b, .int .i64 y, .int .i64 m] 91) = w4 at *
  go_loopw [10] (fun i wr => ∃ k n : Nat, k ≤ x.L.length ∧ i = .int .i64 k ∧ wr = w4.drewN n ∧ Hid (∀ (j : Nat) (t : Cs), j < k → x.L[j]? = some t → t.2 ≠ (b, y, m))) (fun i _ => x.L.length - (intOf i).toNat)
  case atStart => exact ⟨0, 0, Nat.zero_le _, rfl, rfl, fun j t hj => absurd hj (Nat.not_lt_zero j)⟩
  case round =>
    obtain ⟨k, nd, hk, rfl, hw, hno⟩ := hrel
    have hr : RCtAt wr cb (.slice a x.L.length cap) x := by rw [hw]; exact h4.keptP (G := fun _ => False) ((KeptP.refl _ _).drewN nd) (fun g => g) (fun _ _ g => g)
    have r0 : wr.cell? ⟨ne, 0, none⟩ = some (.int .i64 b) := by rw [hw]; exact s0
    have r1 : wr.cell? ⟨ne, 1, none⟩ = some (.int .i64 y) := by rw [hw]; exact s1
    have r2 : wr.cell? ⟨ne, 2, none⟩ = some (.int .i64 m) := by rw [hw]; exact s2
    have HW := hide hw
    clear hw
    have q0 := hr.c0
    by_cases hlt : k < x.L.length
    · obtain ⟨g, cap', e, hc⟩ := hr.row (by omega)
      obtain ⟨rfl, rfl⟩ : a = some ⟨g, 0, none⟩ ∧ cap = cap' := by cases e; exact ⟨rfl, rfl⟩
      obtain ⟨t, ht⟩ : ∃ t, x.L[k]? = some t := ⟨x.L[k], List.getElem?_eq_getElem hlt⟩
      obtain ⟨_, d1, d2, d3⟩ := hc k t ht
      have E1 := ev_guard
      have E2 := fun w => ev_eql t.2.1 t.2.2.1 t.2.2.2 b y m w
      by_cases hq : t.2 = (b, y, m)
      · rw [show decide ((t.2.1, t.2.2.1, t.2.2.2) = (b, y, m)) = true from decide_eq_true hq] at E2
        have S1 : Hid (x.accC o (b, y, m) c = 5) := by
          show _ = _
          unfold Ct.accC
          rw [if_neg (not_not_intro A1.out), if_neg (not_not_intro A2.out), (Ct.seen_iff x _).2 (List.mem_map.2 ⟨t, List.mem_of_getElem? ht, hq⟩)]
          rfl
        have S2 : Hid (x.acc o (b, y, m) c = x) := if_neg (by rw [S1.out]; decide)
        clear hno hc e hq
        go_wp2_with fail
        go_quiet (fail)
        go_wp2_with fail
        go_ret
        refine ⟨ret_int S1.out.symm, F, ⟨_, hF, ?_⟩, ?_, fun _ _ g => g⟩
        · rw [S2.out]
          exact hr.keptP (G := fun _ => False) ((KeptP.refl _ _).drewN _) (fun g => g) (fun _ _ g => g)
        · rw [HW.out]
          exact ((MW.out.drewN nd).drewN _)
      · rw [show decide ((t.2.1, t.2.2.1, t.2.2.2) = (b, y, m)) = false from decide_eq_false hq] at E2
        have S1 : Hid (∀ (j : Nat) (u : Cs), j < k + 1 → x.L[j]? = some u → u.2 ≠ (b, y, m)) := fun j u hj hu g => by
          rcases Nat.lt_or_eq_of_le (Nat.le_of_lt_succ hj) with l | l
          · exact hno.out j u l hu g
          · subst l; rw [ht] at hu; cases hu; exact hq g
        clear hno hc e hq
        go_wp2_with fail
        go_quiet (fail)
        go_wp2_with fail
        go_roundw
        case rel => exact ⟨k + 1, _, by omega, by go_num, by rw [HW.out, drewN_twice], S1⟩
        case measure => simp [intOf]; omega
    · obtain rfl : k = x.L.length := by omega
      have S0 : x.seen (b, y, m) = false := by
        cases g : x.seen (b, y, m) with
        | false => rfl
        | true =>
          obtain ⟨t, ht, e⟩ := List.mem_map.1 ((Ct.seen_iff x _).1 g)
          obtain ⟨j, hj, ej⟩ := List.mem_iff_getElem.1 ht
          exact absurd e (hno.out j t hj (by rw [List.getElem?_eq_getElem hj, ej]))
      have S1 : Hid (x.accC o (b, y, m) c = 0) := by
        show _ = _
        unfold Ct.accC
        rw [if_neg (not_not_intro A1.out), if_neg (not_not_intro A2.out), S0]
        rfl
      have S2 : Hid (x.acc o (b, y, m) c = ⟨x.L ++ [(o, b, y, m)], x.done⟩) := if_pos S1.out
      clear hno S0 hlt
      go_wp2_with fail
      have hd : RCtAt (wr.drew.alloc (.cells #[.int .i64 o, .int .i64 b, .int .i64 y, .int .i64 m] 150)) cb (.slice a x.L.length cap) x := hr.keptP (G := fun _ => False) ((KeptP.refl _ _).drew.trans (KeptP.of_below (F := fun _ => False) ((Below.refl _ _).alloc (Nat.le_refl _) _)) fun _ _ g => g) (fun g => g) (fun _ _ g => g)
      obtain ⟨i0, hi, hz0, hz1, hz2⟩ := info_parts Tryz.infoCase
      have N6 : ∀ j u, [Value.int .i64 o, .int .i64 b, .int .i64 y, .int .i64 m][j]? = some u → (wr.drew.alloc (.cells #[.int .i64 o, .int .i64 b, .int .i64 y, .int .i64 m] 150)).cell? ((⟨wr.heap.size, 0, none⟩ : Addr).add j) = some u := World.news_of_block (heap_alloc_new wr.drew _)
      have one : ∀ u ∈ [Value.int .i64 o, .int .i64 b, .int .i64 y, .int .i64 m], u.oneCell' = true := by simp [Value.oneCell']
      have l63 : x.L.length + 1 ≤ maxLen := by simp only [maxLen]; omega
      have l64 : (x.L.length + 1) * 32 ≤ 140737488355328 := by omega
      have lc := cell_lt hd.c0
      have ow := hd.own
      have c8 : (wr.alloc (.cells #[.int .i64 o, .int .i64 b, .int .i64 y, .int .i64 m] 150)).cell? ⟨cb, 0, none⟩ = some (.slice a x.L.length cap) := hd.c0
      have ncb : cb ≠ wr.heap.size := Nat.ne_of_lt (cell_lt q0)
      go_region_law ((refine step_append_lies _ (by rfl) (.tmp 77) (.tmp 81) 80 (by rfl) 0 150 i0 _ 4 32 Tryz.underlying80 hi hz0 hz1 hz2 rfl (by decide) (.slice a x.L.length cap) x.L.length (crow x.L) (by rfl) ow ⟨wr.heap.size, 0, none⟩ 1 1 [.int .i64 o, .int .i64 b, .int .i64 y, .int .i64 m] (by rfl) rfl N6 one (by decide) l63 l64 (Nat.zero_le _) (wr.heap.size + 1) (by simp) ?_; intro g cap1 w7 hown hgrow hat hlt; have c7 : w7.cell? ⟨cb, 0, none⟩ = some (.slice a x.L.length cap) := (hgrow.cell_far ⟨cb, 0, none⟩ lc (fun e => hd.tv e.symm)).trans hd.c0; have f7 : w7.frozen? ⟨cb, 0, none⟩ = false := (hgrow.frozen_far ⟨cb, 0, none⟩ lc (fun e => hd.tv e.symm)).trans hd.f0))
      all_goals
        go_wp2_with fail
        go_ret
        have h7 := hd.placed (o, b, y, m) hown hgrow (hat.imp id fun e => by rw [e]; simp)
        refine ⟨ret_int S1.out.symm, fun k => k = cb ∨ k = g, ⟨_, fun k => ⟨fun z => z.imp id fun e => by rw [e]; rfl, fun z => z.imp id fun e => by cases e; rfl⟩, S2.out ▸ h7⟩, ?_, fun k hk z => ?_⟩
        · have m2 : KeptP (fun i => (Value.slice a x.L.length cap).ownBlock = some i) _ w7 := ⟨hgrow.os, hgrow.tape, hgrow.output, hgrow.size, fun i hi z => hgrow.block i hi fun e => z e.symm⟩
          have m1 : KeptP F w wr := by rw [HW.out]; exact MW.out.drewN nd
          have m3 := m1.drew.trans (KeptP.of_below (F := fun _ => False) ((Below.refl _ wr.drew).alloc (Nat.le_refl _) (.cells #[.int .i64 o, .int .i64 b, .int .i64 y, .int .i64 m] 150))) fun _ _ g => g.elim
          exact (m3.trans m2 fun i _ z => (hF i).2 (.inr z)).setCell (p := ⟨cb, 0, none⟩) ((hF cb).2 (.inl rfl)) _
        · have m1 : KeptP F w wr := by rw [HW.out]; exact MW.out.drewN nd
          have := m1.size
          rcases z with e | e
          · exact (hF k).2 (.inl e)
          · rcases hat with q | q
            · exact (hF k).2 (.inr (e ▸ q))
            · omega
end Go.Proofs.YtmbfdhekplnoaaaGreatDoor
