/-
  The program's pool by its contracts: what is done to it.
-/
import Derived.Test.YtaihcceobnfmhaaGreatDoorPtrMapX
import Derived.Test.YtaihcceobnfmhaaGreatDoorProgPurseX
namespace Go.Proofs.YtaihcceobnfmhaaGreatDoor
open Go.RowKit Go.Maps

theorem ErrIs.no {A : Nat → Addr} {c : Int} (h : c = 0) : ErrIs A .nilIface c := .inl ⟨h, rfl⟩
theorem ErrIs.is {A : Nat → Addr} {c : Int} (i : Nat) (hi : i < 10) (h : c = i + 1) : ErrIs A (sent (A i)) c := .inr ⟨i, hi, h, rfl⟩
theorem PoolAt.stay {w : World} {b m g g' : Nat} {x y : St} (h : PoolAt w b m x g) (e : y = x) (hg : g ≤ g') : PoolAt w b m y g' ∧ Kept [b, m] w w := by subst e; exact ⟨h.more hg, Kept.refl _ _⟩
theorem PoolAt.stayN {w : World} {b m g g' : Nat} {x y : St} (h : PoolAt w b m x g) (e : y = x) (hg : g ≤ g') (n : Nat) : PoolAt (w.drewN n) b m y g' ∧ Kept [b, m] w (w.drewN n) := by subst e; exact ⟨(h.drewN n).more hg, (Kept.refl _ _).drewN n⟩
theorem OwnS.setCell {w : World} {m g : Nat} {s : Int → Int} (h : OwnS w m s g) (a : Addr) (ha : m ≠ a.block) (u : Value) : OwnS (w.setCell a u) m s g := by
  obtain ⟨n, D, ⟨es, clock, hes, F, hs, hD⟩, hn, hat⟩ := h
  exact ⟨n, D, ⟨es, clock, by rw [Below.heap_setCell _ _ _ _ ha]; exact hes, F, hs, hD⟩, hn, hat⟩
theorem PoolAt.wrote {w w1 : World} {b m g g' : Nat} {x : St} {s' : Int → Int} (h : PoolAt w b m x g) (hb : w1.heap[b]? = w.heap[b]?) (own : OwnS w1 m s' g') (A' T' : Int) (hA : A' = (⟨T', s'⟩ : St).A) :
    PoolAt ((w1.setCell ⟨b, 1, none⟩ (.int .i64 A')).setCell ⟨b, 0, none⟩ (.int .i64 T')) b m ⟨T', s'⟩ g' := by
  have k0 : w1.cell? ⟨b, 0, none⟩ = some (.int .i64 x.T) := by rw [World.cell?_of_block (w := w) (a := ⟨b, 0, none⟩) hb]; exact h.c0
  have k1 : w1.cell? ⟨b, 1, none⟩ = some (.int .i64 x.A) := by rw [World.cell?_of_block (w := w) (a := ⟨b, 1, none⟩) hb]; exact h.c1
  have k2 : w1.cell? ⟨b, 2, none⟩ = some (.map (some m)) := by rw [World.cell?_of_block (w := w) (a := ⟨b, 2, none⟩) hb]; exact h.c2
  refine ⟨?_, ?_, ?_, ?_, ?_, (own.setCell _ (fun e => h.ne e.symm) _).setCell _ (fun e => h.ne e.symm) _, h.ne⟩
  · exact World.cell?_setCell_same _ _ _ (by rw [World.cell?_setCell_other _ _ _ _ (by simp)]; exact k0)
  · rw [World.cell?_setCell_other _ _ _ _ (by simp), World.cell?_setCell_same _ _ _ k1, hA]
  · rw [World.cell?_setCell_other _ _ _ _ (by simp), World.cell?_setCell_other _ _ _ _ (by simp)]; exact k2
  · rw [World.frozen?_setCell, World.frozen?_setCell, World.frozen?_of_block (w := w) (a := ⟨b, 0, none⟩) hb]; exact h.f0
  · rw [World.frozen?_setCell, World.frozen?_setCell, World.frozen?_of_block (w := w) (a := ⟨b, 1, none⟩) hb]; exact h.f1
theorem pool_fresh (w : World) (t : TypeId) : PoolAt ((w.alloc (.map #[] 0)).alloc (.cells #[.int .i64 0, .int .i64 0, .map (some w.heap.size)] t)) (w.heap.size + 1) w.heap.size ⟨0, fun _ => 0⟩ 0 where
  c0 := cell_new _ _ _ _ _ _ (by simp) rfl
  c1 := cell_new _ _ _ _ _ _ (by simp) rfl
  c2 := cell_new _ _ _ _ _ _ (by simp) rfl
  f0 := World.frozen?_alloc_at _ _ _ _ (by simp)
  f1 := World.frozen?_alloc_at _ _ _ _ (by simp)
  own := ⟨0, .map [], (World.ownsMap_made w _ _ _).alloc _, by omega, fun _ _ => rfl⟩
  ne := by omega
theorem PoolAt.setT {w : World} {b m g : Nat} {x : St} (h : PoolAt w b m x g) (T : Int) : PoolAt (w.setCell ⟨b, 0, none⟩ (.int .i64 T)) b m ⟨T, x.s⟩ g where
  c0 := World.cell?_setCell_same _ _ _ h.c0
  c1 := by rw [World.cell?_setCell_other _ _ _ _ (by simp)]; exact h.c1
  c2 := by rw [World.cell?_setCell_other _ _ _ _ (by simp)]; exact h.c2
  f0 := by rw [World.frozen?_setCell]; exact h.f0
  f1 := by rw [World.frozen?_setCell]; exact h.f1
  own := by
    obtain ⟨n, D, ⟨es, clock, hes, F, hs, hD⟩, hn, hat⟩ := h.own
    exact ⟨n, D, ⟨es, clock, by rw [Below.heap_setCell _ _ _ _ (fun e => h.ne e.symm)]; exact hes, F, hs, hD⟩, hn, hat⟩
  ne := h.ne

/-- the two numbers are written first, the map behind them -/
theorem PoolAt.wroteB {w w1 : World} {b m g g' : Nat} {x : St} {s' : Int → Int} (h : PoolAt w b m x g) (A' T' : Int) (hb : w1.heap[b]? = ((w.setCell ⟨b, 1, none⟩ (.int .i64 A')).setCell ⟨b, 0, none⟩ (.int .i64 T')).heap[b]?) (own : OwnS w1 m s' g') (hA : A' = (⟨T', s'⟩ : St).A) : PoolAt w1 b m ⟨T', s'⟩ g' := by
  refine ⟨?_, ?_, ?_, ?_, ?_, own, h.ne⟩
  · rw [World.cell?_of_block (a := ⟨b, 0, none⟩) hb]
    exact World.cell?_setCell_same _ _ _ (by rw [World.cell?_setCell_other _ _ _ _ (by simp)]; exact h.c0)
  · rw [World.cell?_of_block (a := ⟨b, 1, none⟩) hb, World.cell?_setCell_other _ _ _ _ (by simp), World.cell?_setCell_same _ _ _ h.c1, hA]
  · rw [World.cell?_of_block (a := ⟨b, 2, none⟩) hb, World.cell?_setCell_other _ _ _ _ (by simp), World.cell?_setCell_other _ _ _ _ (by simp)]; exact h.c2
  · rw [World.frozen?_of_block (a := ⟨b, 0, none⟩) hb, World.frozen?_setCell, World.frozen?_setCell]; exact h.f0
  · rw [World.frozen?_of_block (a := ⟨b, 1, none⟩) hb, World.frozen?_setCell, World.frozen?_setCell]; exact h.f1
/-- what is taken out of a map whole -/
theorem OwnS.strike {w : World} {m n g : Nat} {D : DataW Unit} {s : Int → Int} {o v : Int} (h : w.ownsMap Tryz.prog 3 (plainElem Tryz.prog 3) m n (D.del (.int .i64 o))) (hn : n ≤ g)
    (hat : ∀ o : Int, (Lit.int .i64 o).wf = true → D.atKey (.int .i64 o) (.lit (.int .i64 0)) = .lit (.int .i64 (s o))) (hv : v = 0) : OwnS w m (fun i => if i = o then v else s i) g := by
  refine ⟨n, _, h, hn, fun i hi => ?_⟩
  show _ = DataW.lit (.int .i64 (if i = o then v else s i))
  by_cases e : i = o
  · subst e
    rw [atKey_del_same, if_pos rfl, hv]
  · rw [atKey_del_other (fun g => e (by cases g; rfl)), if_neg e, hat i hi]

set_option maxRecDepth 100000 in
set_option maxHeartbeats 1000000 in
theorem prog_add (b m g : Nat) (x : St) (hx : x.Ok) (n : Int) (A : Nat → Addr) (sh : Bool) (w : World) (hL : PoolLaid w A sh) (h : PoolAt w b m x g) :
    Calls Tryz.prog 152 #[.pointer (some ⟨b, 0, none⟩), .int .i64 n] w fun e w' => ∃ ev, e = .returned ev ∧ ErrIs A ev (x.addC n) ∧ PoolAt w' b m (x.add n) (g + 4) ∧ Kept [b, m] w w' := by
  have c0 := h.c0
  have c1 := h.c1
  have f0 := h.f0
  have t0 := hx.t0
  have t1 := hx.t1
  have v1 := hL.v1
  have v3 := hL.v3
  by_cases hn : 0 ≤ n ∧ n ≤ 1125899906842624
  · have I := amount_yes n hn.1 hn.2
    by_cases hA : x.A = 0
    · have e1 := hide (St.addC_none hn hA)
      have tA : (x.A == 0) = true := by simp [hA]
      obtain ⟨n0, n1⟩ := hn
      clear hA
      go_enter Tryz.func152, Tryz.ntmps152
      go_wp2_with (go_at_call 153; refine (I _).mono ?_; rintro e w' ⟨rfl, rfl⟩)
      go_ret
      exact ⟨_, rfl, ErrIs.is 3 (by omega) e1.out, h.stay (St.add_no e1.out (by omega)) (by omega)⟩
    · have tA : (x.A == 0) = false := by simp [hA]
      by_cases hT : x.T + n ≤ 1125899906842624
      · have e1 := hide (St.addC_fine hn hA hT)
        have e2 := hide (St.add_yes e1.out)
        obtain ⟨n0, n1⟩ := hn
        have J := amount_yes (x.T + n) (by omega) hT
        clear hA
        go_enter Tryz.func152, Tryz.ntmps152
        go_wp2_with (first | (go_at_call 153; refine (I _).mono ?_; rintro e w' ⟨rfl, rfl⟩) | (go_at_call 153; refine (J _).mono ?_; rintro e w' ⟨rfl, rfl⟩))
        go_ret
        exact ⟨_, rfl, ErrIs.no e1.out, by rw [e2.out]; exact (h.setT _).more (by omega), (Kept.refl _ _).setCell (by simp) _⟩
      · have e1 := hide (St.addC_over hn hA (by omega))
        obtain ⟨n0, n1⟩ := hn
        have J := amount_no (x.T + n) (by omega)
        clear hA
        go_enter Tryz.func152, Tryz.ntmps152
        go_wp2_with (first | (go_at_call 153; refine (I _).mono ?_; rintro e w' ⟨rfl, rfl⟩) | (go_at_call 153; refine (J _).mono ?_; rintro e w' ⟨rfl, rfl⟩))
        go_ret
        exact ⟨_, rfl, ErrIs.is 1 (by omega) e1.out, h.stay (St.add_no e1.out (by omega)) (by omega)⟩
  · have e1 := hide (St.addC_bad (x := x) hn)
    have I := amount_no n hn
    clear hn
    go_enter Tryz.func152, Tryz.ntmps152
    go_wp2_with (go_at_call 153; refine (I _).mono ?_; rintro e w' ⟨rfl, rfl⟩)
    go_ret
    exact ⟨_, rfl, ErrIs.is 1 (by omega) e1.out, h.stay (St.add_no e1.out (by omega)) (by omega)⟩

set_option maxRecDepth 100000 in
theorem prog_new (w : World) :
    Calls Tryz.prog 145 #[] w fun e w' => ∃ b m, e = .returned (.pointer (some ⟨b, 0, none⟩)) ∧ w.heap.size ≤ b ∧ w.heap.size ≤ m ∧ PoolAt w' b m ⟨0, fun _ => 0⟩ 0 ∧ Below w.heap.size w w' := by
  have hmm := @run_makeMap Tryz.prog
  go_enter Tryz.func145, Tryz.ntmps145
  go_wp2
  go_ret
  exact ⟨w.heap.size + 1, w.heap.size, rfl, by omega, by omega, pool_fresh w _, ((Below.refl _ _).alloc (Nat.le_refl _) _).alloc (by simp) _⟩

set_option maxRecDepth 100000 in
set_option maxHeartbeats 1000000 in
theorem prog_slash (b m g : Nat) (x : St) (hx : x.Ok) (p : Int) (A : Nat → Addr) (sh : Bool) (w : World) (hL : PoolLaid w A sh) (h : PoolAt w b m x g) :
    Calls Tryz.prog 191 #[.pointer (some ⟨b, 0, none⟩), .int .i64 p] w fun e w' => ∃ ev, e = .returned (.tuple #[.int .i64 (x.slashN p), ev]) ∧ ErrIs A ev (x.slashC p) ∧ PoolAt w' b m (x.slash p) (g + 4) ∧ Kept [b, m] w w' := by
  have c0 := h.c0
  have f0 := h.f0
  have t0 := hx.t0
  have t1 := hx.t1
  have v1 := hL.v1
  by_cases hp : 0 ≤ p ∧ p ≤ 100
  · have e1 := hide (St.slash_yes (x := x) hp)
    have bd := hx.slashN_bd p
    rw [e1.out.2.1] at bd
    have P := down_yes x.T p 100 ⟨t0, t1, hp.1, by omega, by omega, by omega⟩ (by omega)
    obtain ⟨p0, p1⟩ := hp
    go_enter Tryz.func191, Tryz.ntmps191
    go_wp2_with (go_at_call 60; refine (P _).mono ?_; rintro e w' ⟨rfl, n, rfl⟩)
    go_ret2
    refine ⟨.nilIface, ret_pair e1.out.2.1.symm _, ErrIs.no e1.out.1, by rw [e1.out.2.2]; exact ((h.drewN n).setT _).more (by omega), ((Kept.refl _ _).drewN n).setCell (by simp) _⟩
  · have e1 := hide (St.slash_no (x := x) hp)
    by_cases p0 : 0 ≤ p
    · have p1 : 100 < p := by omega
      clear hp
      go_enter Tryz.func191, Tryz.ntmps191
      go_wp2
      go_quiet (fail)
      go_wp2
      go_ret2
      exact ⟨sent (A 1), ret_pair e1.out.2.1.symm _, ErrIs.is 1 (by omega) e1.out.1, h.stayN e1.out.2.2 (by omega) _⟩
    · clear hp
      go_enter Tryz.func191, Tryz.ntmps191
      go_wp2
      go_quiet (fail)
      go_wp2
      go_ret2
      exact ⟨sent (A 1), ret_pair e1.out.2.1.symm _, ErrIs.is 1 (by omega) e1.out.1, h.stayN e1.out.2.2 (by omega) _⟩

set_option maxRecDepth 100000 in
set_option maxHeartbeats 1000000 in
theorem prog_drop (b m g : Nat) (x : St) (hx : x.Ok) (o s n : Int) (o0 : 0 ≤ o) (o6 : o < 6) (s0 : 0 ≤ s) (s1 : s ≤ x.s o) (n0 : 0 ≤ n) (n1 : n ≤ x.T) (hg : g ≤ 1000000) (w : World) (h : PoolAt w b m x g) :
    Calls Tryz.prog 205 #[.pointer (some ⟨b, 0, none⟩), .int .i64 o, .int .i64 s, .int .i64 n] w fun e w' => e = .returned (.tuple #[]) ∧ PoolAt w' b m (x.set o (x.s o - s) (x.T - n)) (g + 4) ∧ Kept [b, m] w w' := by
  have ho : (Lit.int .i64 o).wf = true := WalkArith.wf_i64 (by omega)
  have c0 := h.c0
  have c1 := h.c1
  have c2 := h.c2
  have f0 := h.f0
  have f1 := h.f1
  have t0 := hx.t0
  have t1 := hx.t1
  have a0 := hx.a0
  have a1 := hx.a1
  have l1 := hx.le_all o
  have ne := h.ne
  have hlb := cell_lt c0
  have O2 := (h.own.setCell ⟨b, 1, none⟩ (fun e => ne e.symm) (.int .i64 (x.A - s))).setCell ⟨b, 0, none⟩ (fun e => ne e.symm) (.int .i64 (x.T - n))
  have lk := O2.look o ho
  obtain ⟨k, D, hown, hn, hat⟩ := O2
  have HA := hide hat
  have hmap : IsMap D := by obtain ⟨es, e, _⟩ := hown.tidy keyed; exact ⟨es, e⟩
  clear hat
  have hlb2 : b < ((w.setCell ⟨b, 1, none⟩ (.int .i64 (x.A - s))).setCell ⟨b, 0, none⟩ (.int .i64 (x.T - n))).heap.size := by simpa [World.setCell] using hlb
  have eA : x.A - s = (x.set o (x.s o - s) (x.T - n)).A := by rw [St.set_A _ _ _ _ o0 o6]; omega
  have EA := hide eA
  clear eA
  by_cases hz : s = x.s o
  · have tz : (s == x.s o) = true := by simp [hz]
    have HZ := hide (show x.s o - s = 0 by omega)
    clear hz
    go_enter Tryz.func205, Tryz.ntmps205
    go_wp2_with (at_delete; refine wpList_delete_own _ rfl _ _ 157 3 rfl 3 keyed Tryz.underlying157 _ m k _ rfl hown _ _ rfl (keyOf_int_mk Tryz.underlying3 ho) ?_; intro w2 hown2 hturn2; have HB := hide (hturn2.grown.block b hlb2 (fun e => ne (by cases e; rfl))))
    (try simp only [Exit.inBlock, Exit.then]); refine bodyPost_ret (results_none rfl _ _ _) rfl ?_
    have O2 := OwnS.strike (v := x.s o - s) hown2 hn HA.out HZ.out
    exact ⟨rfl, (h.wroteB _ _ HB.out O2 EA.out).more (by omega), (((Kept.refl _ _).setCell (by simp) _).setCell (by simp) _).grown hturn2.grown (by simp)⟩
  · have tz : (s == x.s o) = false := by simp [hz]
    clear hz
    go_enter Tryz.func205, Tryz.ntmps205
    go_wp2_with (at_mapUpdate; refine wpList_mapUpdate_own _ rfl _ _ _ 157 rfl 3 3 keyed Tryz.underlying157 _ m k _ rfl hown (by unfold maxLen; omega) _ _ _ rfl rfl (keyOf_int_mk Tryz.underlying3 ho) _ [] (plainElem_int Tryz.underlying3 (WalkArith.wf_i64 (by omega))) ?_; intro w1 hown1 hgrow1; have OO := hide (OwnS.put hmap hown1 hn HA.out trivial); have HB := hide (hgrow1.block b hlb2 (fun e => ne (by cases e; rfl))))
    go_end0
    exact ⟨rfl, (h.wroteB _ _ HB.out OO.out EA.out).more (by omega), (((Kept.refl _ _).setCell (by simp) _).setCell (by simp) _).grown hgrow1 (by simp)⟩

set_option maxRecDepth 100000 in
set_option maxHeartbeats 1000000 in
theorem prog_leave (b m g : Nat) (x : St) (hx : x.Ok) (o : Int) (ho : (Lit.int .i64 o).wf = true) (hg : g ≤ 1000000) (A : Nat → Addr) (sh : Bool) (w : World) (hL : PoolLaid w A sh) (h : PoolAt w b m x g) :
    Calls Tryz.prog 206 #[.pointer (some ⟨b, 0, none⟩), .int .i64 o] w fun e w' => ∃ ev, e = .returned (.tuple #[.int .i64 (x.leaveN o), ev]) ∧ ErrIs A ev (x.leaveC o) ∧ PoolAt w' b m (x.leave o) (g + 4) ∧ Kept [b, m] w w' := by
  have c2 := h.c2
  have v1 := hL.v1
  have v3 := hL.v3
  have lk := h.own.look o ho
  by_cases hoo : 0 ≤ o ∧ o < 6
  · have I := owner_yes o hoo.1 hoo.2
    by_cases hs : x.s o = 0
    · have e1 := hide (St.leaveC_none hoo hs)
      have e2 := hide (St.leave_no e1.out (by omega))
      have ts : (x.s o == 0) = true := by simp [hs]
      clear hoo hs
      go_enter Tryz.func206, Tryz.ntmps206
      go_wp2_with (go_at_call 117; refine (I _).mono ?_; rintro e w' ⟨rfl, rfl⟩)
      go_quiet (fail)
      go_wp2
      go_ret2
      exact ⟨sent (A 3), ret_pair e2.out.2.symm _, ErrIs.is 3 (by omega) e1.out, h.stayN e2.out.1 (by omega) _⟩
    · have e1 := hide (St.leaveC_fine hoo hs)
      have e2 := hide (St.leave_yes e1.out)
      have ts : (x.s o == 0) = false := by simp [hs]
      have s0 := hx.pos o
      have w0 := hx.val0 o
      have w1' := hx.val1 o
      obtain ⟨o0, o6⟩ := hoo
      clear hs
      have VV := hide (fun w' (h' : PoolAt w' b m x g) => prog_value b m g x hx o ho w' h')
      have DD := hide (fun w' (h' : PoolAt w' b m x g) => prog_drop b m g x hx o (x.s o) (x.val o) o0 o6 s0 (Int.le_refl _) w0 w1' hg w' h')
      go_enter Tryz.func206, Tryz.ntmps206
      go_wp2_with (first
        | (go_at_call 117; refine (I _).mono ?_; rintro e w' ⟨rfl, rfl⟩)
        | (go_at_call 138; refine (VV.out _ h).mono ?_; rintro e w' ⟨rfl, q, rfl⟩)
        | (go_at_call 205; refine (DD.out _ (h.drewN _)).mono ?_; rintro e w5 ⟨rfl, hP5, hK5⟩))
      go_ret2
      refine ⟨.nilIface, ret_pair e2.out.2.symm _, ErrIs.no e1.out, ?_, ((Kept.refl _ _).drewN _).trans hK5⟩
      rw [e2.out.1, ← Int.sub_self (x.s o)]
      exact hP5
  · have I := owner_no o hoo
    have e1 := hide (St.leaveC_bad (x := x) hoo)
    have e2 := hide (St.leave_no e1.out (by omega))
    clear hoo
    go_enter Tryz.func206, Tryz.ntmps206
    go_wp2_with (go_at_call 117; refine (I _).mono ?_; rintro e w' ⟨rfl, rfl⟩)
    go_quiet (fail)
    go_wp2
    go_ret2
    exact ⟨sent (A 1), ret_pair e2.out.2.symm _, ErrIs.is 1 (by omega) e1.out, h.stayN e2.out.1 (by omega) _⟩

set_option maxRecDepth 100000 in
set_option maxHeartbeats 2000000 in
theorem prog_for_none (b m g : Nat) (x : St) (n : Int) (hA : x.A = 0) (w : World) (h : PoolAt w b m x g) :
    Calls Tryz.prog 202 #[.pointer (some ⟨b, 0, none⟩), .int .i64 n] w fun e w' => e = .returned (.tuple #[.int .i64 n, .nilIface]) ∧ ∃ k, w' = w.drewN k := by
  have c1 := h.c1
  have tA : (x.A == 0) = true := by simp [hA]
  clear hA
  go_enter Tryz.func202, Tryz.ntmps202
  go_wp2
  go_ret2
  exact ⟨rfl, 0, rfl⟩
set_option maxRecDepth 100000 in
set_option maxHeartbeats 2000000 in
theorem prog_for_yes (b m g : Nat) (x : St) (n : Int) (hA : 0 < x.A) (hm : Amounts n x.A x.T) (hq : n * x.A / x.T ≤ 1125899906842624) (w : World) (h : PoolAt w b m x g) :
    Calls Tryz.prog 202 #[.pointer (some ⟨b, 0, none⟩), .int .i64 n] w fun e w' => e = .returned (.tuple #[.int .i64 (n * x.A / x.T), .nilIface]) ∧ ∃ k, w' = w.drewN k := by
  have c0 := h.c0
  have c1 := h.c1
  have tA : (x.A == 0) = false := by simp; omega
  have P := down_yes _ _ _ hm hq
  clear hm hq hA
  go_enter Tryz.func202, Tryz.ntmps202
  go_wp2
  go_quiet ((go_at_call 60; exact Calls.quiet_of (P _)))
  go_wp2
  go_ret2
  exact ⟨rfl, _, rfl⟩
set_option maxRecDepth 100000 in
set_option maxHeartbeats 2000000 in
theorem prog_for_no (b m g : Nat) (x : St) (n : Int) (hA : 0 < x.A) (hq : ¬ n * x.A / x.T ≤ 1125899906842624) (A : Nat → Addr) (sh : Bool) (w : World) (hL : PoolLaid w A sh) (h : PoolAt w b m x g) :
    Calls Tryz.prog 202 #[.pointer (some ⟨b, 0, none⟩), .int .i64 n] w fun e w' => e = .returned (.tuple #[.int .i64 0, sent (A 1)]) ∧ ∃ k, w' = w.drewN k := by
  have c0 := h.c0
  have c1 := h.c1
  have v1 := hL.v1
  have tA : (x.A == 0) = false := by simp; omega
  have PP := hide (fun w' h' => down_no n x.A x.T (fun g => hq g.2) (A 1) w' h')
  clear hq hA
  go_enter Tryz.func202, Tryz.ntmps202
  go_wp2
  go_quiet ((go_at_call 60; exact Calls.quiet_of (PP.out _ (by exact v1))))
  go_wp2
  go_ret2
  exact ⟨rfl, _, rfl⟩

set_option maxRecDepth 100000 in
set_option maxHeartbeats 2000000 in
theorem prog_join_bad (b m g : Nat) (x : St) (o n : Int) (hb : ¬ Act1 o n) (A : Nat → Addr) (sh : Bool) (w : World) (hL : PoolLaid w A sh) (h : PoolAt w b m x g) :
    Calls Tryz.prog 190 #[.pointer (some ⟨b, 0, none⟩), .int .i64 o, .int .i64 n] w fun e w' => ∃ ev, e = .returned ev ∧ ErrIs A ev (x.joinC o n) ∧ PoolAt w' b m (x.join o n) (g + 4) ∧ Kept [b, m] w w' := by
  have e1 := hide (St.joinC_bad (x := x) hb)
  have v1 := hL.v1
  unfold Act1 at hb
  by_cases ho : 0 ≤ o ∧ o < 6
  · have I := owner_yes o ho.1 ho.2
    have J := some_no n (by omega)
    clear hb ho
    go_enter Tryz.func190, Tryz.ntmps190
    go_wp2_with (first | (go_at_call 117; refine (I _).mono ?_; rintro e w' ⟨rfl, rfl⟩) | (go_at_call 150; refine (J _).mono ?_; rintro e w' ⟨rfl, rfl⟩))
    go_ret
    exact ⟨_, rfl, ErrIs.is 1 (by omega) e1.out, h.stay (St.join_no e1.out (by omega)) (by omega)⟩
  · have I := owner_no o ho
    clear hb ho
    go_enter Tryz.func190, Tryz.ntmps190
    go_wp2_with (go_at_call 117; refine (I _).mono ?_; rintro e w' ⟨rfl, rfl⟩)
    go_ret
    exact ⟨_, rfl, ErrIs.is 1 (by omega) e1.out, h.stay (St.join_no e1.out (by omega)) (by omega)⟩

set_option maxRecDepth 100000 in
set_option maxHeartbeats 2000000 in
/-- the shares that come are laid into the map -/
theorem prog_join_in (b m g : Nat) (x : St) (hx : x.Ok) (o n s : Int) (hb : Act1 o n) (hg : g ≤ 1000000) (hT1 : x.T + n ≤ 1125899906842624) (hA1 : x.A + s ≤ 1125899906842624) (s0 : 0 < s) (hgo : ¬ (0 < x.A ∧ x.T = 0))
    (SF : ∀ w, PoolAt w b m x g → Calls Tryz.prog 202 #[.pointer (some ⟨b, 0, none⟩), .int .i64 n] w fun e w' => e = .returned (.tuple #[.int .i64 s, .nilIface]) ∧ ∃ k, w' = w.drewN k) (w : World) (h : PoolAt w b m x g) :
    Calls Tryz.prog 190 #[.pointer (some ⟨b, 0, none⟩), .int .i64 o, .int .i64 n] w fun e w' => ∃ ev, e = .returned ev ∧ ev = .nilIface ∧ PoolAt w' b m (x.set o (x.s o + s) (x.T + n)) (g + 4) ∧ Kept [b, m] w w' := by
  obtain ⟨o0, o6, n1, nM⟩ := hb
  have ho : (Lit.int .i64 o).wf = true := WalkArith.wf_i64 (by omega)
  have I := owner_yes o o0 o6
  have J := some_yes n n1 nM
  have SS := hide SF
  have c0 := h.c0
  have c1 := h.c1
  have t0 := hx.t0
  have t1 := hx.t1
  have a0 := hx.a0
  have a1 := hx.a1
  have p0 := hx.pos o
  have l1 := hx.le_all o
  have ne := h.ne
  have A1 := amount_yes (x.T + n) (by omega) hT1
  have A2 := amount_yes (x.A + s) (by omega) hA1
  have eA : x.A + s = (x.set o (x.s o + s) (x.T + n)).A := by rw [St.set_A _ _ _ _ o0 o6]; omega
  have EA := hide eA
  clear eA
  have ts : (s == 0) = false := by simp; omega
  by_cases hA : 0 < x.A
  · have tT : (x.T == 0) = false := by simp; intro e; exact hgo ⟨hA, e⟩
    clear hgo
    go_enter Tryz.func190, Tryz.ntmps190
    go_wp2_with (first | (go_at_call 117; refine (I _).mono ?_; rintro e w' ⟨rfl, rfl⟩) | (go_at_call 150; refine (J _).mono ?_; rintro e w' ⟨rfl, rfl⟩) | (go_at_call 153; refine (A1 _).mono ?_; rintro e w' ⟨rfl, rfl⟩) | (go_at_call 153; refine (A2 _).mono ?_; rintro e w' ⟨rfl, rfl⟩) | (go_at_call 202; refine (SS.out _ h).mono ?_; rintro e w4 ⟨rfl, q, hw⟩; have hK0 := hide (by rw [hw]; exact (Kept.refl _ _).drewN q : Kept [b, m] _ w4); have h := (by rw [hw]; exact h.drewN q : PoolAt w4 b m x g); clear hw; clear c0 c1; have c0 := h.c0; have c1 := h.c1; have c2 := h.c2; have f0 := h.f0; have f1 := h.f1; have hlb := cell_lt c0; have lk := h.own.look o ho; obtain ⟨k, D, hown, hn, hat⟩ := h.own; have HA := hide hat; have hmap : IsMap D := (by obtain ⟨es, e, _⟩ := hown.tidy keyed; exact ⟨es, e⟩); clear hat) | (at_mapUpdate; refine wpList_mapUpdate_own _ rfl _ _ _ 157 rfl 3 3 keyed Tryz.underlying157 _ m k _ rfl hown (by unfold maxLen; omega) _ _ _ rfl rfl (keyOf_int_mk Tryz.underlying3 ho) _ [] (plainElem_int Tryz.underlying3 (WalkArith.wf_i64 (by omega))) ?_; intro w1 hown1 hgrow1; have O1 := OwnS.put hmap hown1 hn HA.out trivial; have hb1 := hgrow1.block b hlb (fun e => ne (by cases e; rfl)); have d0 : w1.cell? ⟨b, 0, none⟩ = some (.int .i64 x.T) := (by rw [World.cell?_of_block (a := ⟨b, 0, none⟩) hb1]; exact c0); have d1 : w1.cell? ⟨b, 1, none⟩ = some (.int .i64 x.A) := (by rw [World.cell?_of_block (a := ⟨b, 1, none⟩) hb1]; exact c1); have g0 : w1.frozen? ⟨b, 0, none⟩ = false := (by rw [World.frozen?_of_block (a := ⟨b, 0, none⟩) hb1]; exact f0); have g1 : w1.frozen? ⟨b, 1, none⟩ = false := (by rw [World.frozen?_of_block (a := ⟨b, 1, none⟩) hb1]; exact f1); have HB1 := hide hb1; have OO := hide O1; clear hb1 O1))
    go_ret
    exact ⟨_, rfl, rfl, (h.wrote HB1.out OO.out _ _ EA.out).more (by omega), ((hK0.out.grown hgrow1 (by simp)).setCell (by simp) _).setCell (by simp) _⟩
  · clear hgo
    go_enter Tryz.func190, Tryz.ntmps190
    go_wp2_with (first | (go_at_call 117; refine (I _).mono ?_; rintro e w' ⟨rfl, rfl⟩) | (go_at_call 150; refine (J _).mono ?_; rintro e w' ⟨rfl, rfl⟩) | (go_at_call 153; refine (A1 _).mono ?_; rintro e w' ⟨rfl, rfl⟩) | (go_at_call 153; refine (A2 _).mono ?_; rintro e w' ⟨rfl, rfl⟩) | (go_at_call 202; refine (SS.out _ h).mono ?_; rintro e w4 ⟨rfl, q, hw⟩; have hK0 := hide (by rw [hw]; exact (Kept.refl _ _).drewN q : Kept [b, m] _ w4); have h := (by rw [hw]; exact h.drewN q : PoolAt w4 b m x g); clear hw; clear c0 c1; have c0 := h.c0; have c1 := h.c1; have c2 := h.c2; have f0 := h.f0; have f1 := h.f1; have hlb := cell_lt c0; have lk := h.own.look o ho; obtain ⟨k, D, hown, hn, hat⟩ := h.own; have HA := hide hat; have hmap : IsMap D := (by obtain ⟨es, e, _⟩ := hown.tidy keyed; exact ⟨es, e⟩); clear hat) | (at_mapUpdate; refine wpList_mapUpdate_own _ rfl _ _ _ 157 rfl 3 3 keyed Tryz.underlying157 _ m k _ rfl hown (by unfold maxLen; omega) _ _ _ rfl rfl (keyOf_int_mk Tryz.underlying3 ho) _ [] (plainElem_int Tryz.underlying3 (WalkArith.wf_i64 (by omega))) ?_; intro w1 hown1 hgrow1; have O1 := OwnS.put hmap hown1 hn HA.out trivial; have hb1 := hgrow1.block b hlb (fun e => ne (by cases e; rfl)); have d0 : w1.cell? ⟨b, 0, none⟩ = some (.int .i64 x.T) := (by rw [World.cell?_of_block (a := ⟨b, 0, none⟩) hb1]; exact c0); have d1 : w1.cell? ⟨b, 1, none⟩ = some (.int .i64 x.A) := (by rw [World.cell?_of_block (a := ⟨b, 1, none⟩) hb1]; exact c1); have g0 : w1.frozen? ⟨b, 0, none⟩ = false := (by rw [World.frozen?_of_block (a := ⟨b, 0, none⟩) hb1]; exact f0); have g1 : w1.frozen? ⟨b, 1, none⟩ = false := (by rw [World.frozen?_of_block (a := ⟨b, 1, none⟩) hb1]; exact f1); have HB1 := hide hb1; have OO := hide O1; clear hb1 O1))
    go_ret
    exact ⟨_, rfl, rfl, (h.wrote HB1.out OO.out _ _ EA.out).more (by omega), ((hK0.out.grown hgrow1 (by simp)).setCell (by simp) _).setCell (by simp) _⟩

set_option maxRecDepth 100000 in
set_option maxHeartbeats 2000000 in
theorem prog_join (b m g : Nat) (x : St) (hx : x.Ok) (o n : Int) (_ho : (Lit.int .i64 o).wf = true) (hg : g ≤ 1000000) (A : Nat → Addr) (sh : Bool) (w : World) (hL : PoolLaid w A sh) (h : PoolAt w b m x g) :
    Calls Tryz.prog 190 #[.pointer (some ⟨b, 0, none⟩), .int .i64 o, .int .i64 n] w fun e w' => ∃ ev, e = .returned ev ∧ ErrIs A ev (x.joinC o n) ∧ PoolAt w' b m (x.join o n) (g + 4) ∧ Kept [b, m] w w' := by
  by_cases hb : Act1 o n
  · obtain ⟨o0, o6, n1, nM⟩ := hb
    have hb : Act1 o n := ⟨o0, o6, n1, nM⟩
    have c0 := h.c0
    have c1 := h.c1
    have t0 := hx.t0
    have t1 := hx.t1
    have a0 := hx.a0
    have a1 := hx.a1
    have v7 := hL.v7
    have LL := hL
    have hL := hide hL
    have I := owner_yes o o0 o6
    have J := some_yes n n1 nM
    by_cases hA : x.A = 0
    · have hT := hx.none hA
      have eK := St.joinK_none (x := x) (n := n) hA
      have e1 := St.joinC_fine (x := x) hb (by omega) (by omega) (by omega) (by omega) (by omega)
      refine (prog_join_in b m g x hx o n n hb hg (by omega) (by omega) (by omega) (by omega) (fun w h => prog_for_none b m g x n hA w h) w h).mono ?_
      rintro e w' ⟨ev, rfl, rfl, hP, hK⟩
      refine ⟨_, rfl, ErrIs.no e1, ?_, hK⟩
      rw [St.join_yes e1, eK]; exact hP
    · have hA0 : 0 < x.A := by omega
      have eK := St.joinK_some (x := x) (n := n) hA
      by_cases hT : x.T = 0
      · have e1 := hide (St.joinC_gone hb hA0 hT)
        have tT : (x.T == 0) = true := by simp [hT]
        clear hA hT eK hb LL
        go_enter Tryz.func190, Tryz.ntmps190
        go_wp2_with (first | (go_at_call 117; refine (I _).mono ?_; rintro e w' ⟨rfl, rfl⟩) | (go_at_call 150; refine (J _).mono ?_; rintro e w' ⟨rfl, rfl⟩))
        go_ret
        exact ⟨_, rfl, ErrIs.is 7 (by omega) e1.out, h.stay (St.join_no e1.out (by omega)) (by omega)⟩
      · have tT : (x.T == 0) = false := by simp [hT]
        have hM : Amounts n x.A x.T := ⟨by omega, nM, a0, a1, by omega, t1⟩
        have q0 := quo_nonneg (n * x.A) x.T (Int.mul_nonneg (by omega) a0) (by omega)
        by_cases hq : n * x.A / x.T ≤ 1125899906842624
        · have SS := hide (fun w (h : PoolAt w b m x g) => prog_for_yes b m g x n hA0 hM hq w h)
          by_cases h3 : x.T + n ≤ 1125899906842624
          · have A1 := amount_yes (x.T + n) (by omega) h3
            by_cases h4 : x.A + n * x.A / x.T ≤ 1125899906842624
            · have A2 := amount_yes (x.A + n * x.A / x.T) (by omega) h4
              by_cases h5 : n * x.A / x.T = 0
              · have e1 := hide (St.joinC_small (x := x) hb (by omega) h3 (by omega) (by omega))
                have t5 : (n * x.A / x.T == 0) = true := by simp [h5]
                clear hA hT eK hb h5 hM LL
                go_enter Tryz.func190, Tryz.ntmps190
                go_wp2_with (first | (go_at_call 117; refine (I _).mono ?_; rintro e w' ⟨rfl, rfl⟩) | (go_at_call 150; refine (J _).mono ?_; rintro e w' ⟨rfl, rfl⟩) | (go_at_call 153; refine (A1 _).mono ?_; rintro e w' ⟨rfl, rfl⟩) | (go_at_call 153; refine (A2 _).mono ?_; rintro e w' ⟨rfl, rfl⟩) | (go_at_call 202; refine (SS.out _ h).mono ?_; rintro e w4 ⟨rfl, q, hw⟩; have hK0 := hide (by rw [hw]; exact (Kept.refl _ _).drewN q : Kept [b, m] _ w4); have h := (by rw [hw]; exact h.drewN q : PoolAt w4 b m x g); have v1 := (by rw [hw]; exact hL.out.v1 : w4.cell? ⟨0, 0, none⟩ = some (sent (A 1))); have v6 := (by rw [hw]; exact hL.out.v6 : w4.cell? ⟨7, 0, none⟩ = some (sent (A 6))); clear hw; clear c0 c1; have c0 := h.c0; have c1 := h.c1))
                go_ret
                exact ⟨_, rfl, ErrIs.is 6 (by omega) e1.out, by rw [St.join_no e1.out (by omega)]; exact h.more (by omega), hK0.out⟩
              · have e1 := St.joinC_fine (x := x) hb (by omega) (by omega) h3 (by omega) (by omega)
                refine (prog_join_in b m g x hx o n (n * x.A / x.T) hb hg h3 h4 (by omega) (by omega) SS.out w h).mono ?_
                rintro e w' ⟨ev, rfl, rfl, hP, hK⟩
                refine ⟨_, rfl, ErrIs.no e1, ?_, hK⟩
                rw [St.join_yes e1, eK]; exact hP
            · have e1 := hide (St.joinC_over (x := x) hb (by omega) (by omega))
              have A2 := amount_no (x.A + n * x.A / x.T) (by omega)
              clear hA hT eK hb hM LL
              go_enter Tryz.func190, Tryz.ntmps190
              go_wp2_with (first | (go_at_call 117; refine (I _).mono ?_; rintro e w' ⟨rfl, rfl⟩) | (go_at_call 150; refine (J _).mono ?_; rintro e w' ⟨rfl, rfl⟩) | (go_at_call 153; refine (A1 _).mono ?_; rintro e w' ⟨rfl, rfl⟩) | (go_at_call 153; refine (A2 _).mono ?_; rintro e w' ⟨rfl, rfl⟩) | (go_at_call 202; refine (SS.out _ h).mono ?_; rintro e w4 ⟨rfl, q, hw⟩; have hK0 := hide (by rw [hw]; exact (Kept.refl _ _).drewN q : Kept [b, m] _ w4); have h := (by rw [hw]; exact h.drewN q : PoolAt w4 b m x g); have v1 := (by rw [hw]; exact hL.out.v1 : w4.cell? ⟨0, 0, none⟩ = some (sent (A 1))); have v6 := (by rw [hw]; exact hL.out.v6 : w4.cell? ⟨7, 0, none⟩ = some (sent (A 6))); clear hw; clear c0 c1; have c0 := h.c0; have c1 := h.c1))
              go_ret
              exact ⟨_, rfl, ErrIs.is 1 (by omega) e1.out, by rw [St.join_no e1.out (by omega)]; exact h.more (by omega), hK0.out⟩
          · have e1 := hide (St.joinC_over (x := x) hb (by omega) (by omega))
            have A1 := amount_no (x.T + n) (by omega)
            clear hA hT eK hb hM LL
            go_enter Tryz.func190, Tryz.ntmps190
            go_wp2_with (first | (go_at_call 117; refine (I _).mono ?_; rintro e w' ⟨rfl, rfl⟩) | (go_at_call 150; refine (J _).mono ?_; rintro e w' ⟨rfl, rfl⟩) | (go_at_call 153; refine (A1 _).mono ?_; rintro e w' ⟨rfl, rfl⟩) | (go_at_call 202; refine (SS.out _ h).mono ?_; rintro e w4 ⟨rfl, q, hw⟩; have hK0 := hide (by rw [hw]; exact (Kept.refl _ _).drewN q : Kept [b, m] _ w4); have h := (by rw [hw]; exact h.drewN q : PoolAt w4 b m x g); have v1 := (by rw [hw]; exact hL.out.v1 : w4.cell? ⟨0, 0, none⟩ = some (sent (A 1))); have v6 := (by rw [hw]; exact hL.out.v6 : w4.cell? ⟨7, 0, none⟩ = some (sent (A 6))); clear hw; clear c0 c1; have c0 := h.c0; have c1 := h.c1))
            go_ret
            exact ⟨_, rfl, ErrIs.is 1 (by omega) e1.out, by rw [St.join_no e1.out (by omega)]; exact h.more (by omega), hK0.out⟩
        · have e1 := hide (St.joinC_over (x := x) hb (by omega) (by omega))
          have SS := hide (fun w' (h' : PoolAt w' b m x g) (hL' : PoolLaid w' A sh) => prog_for_no b m g x n hA0 hq A sh w' hL' h')
          clear hA hT eK hb hM hq
          go_enter Tryz.func190, Tryz.ntmps190
          go_wp2_with (first | (go_at_call 117; refine (I _).mono ?_; rintro e w' ⟨rfl, rfl⟩) | (go_at_call 150; refine (J _).mono ?_; rintro e w' ⟨rfl, rfl⟩) | (go_at_call 202; refine (SS.out _ h LL).mono ?_; rintro e w4 ⟨rfl, q, hw⟩; have hK0 := hide (by rw [hw]; exact (Kept.refl _ _).drewN q : Kept [b, m] _ w4); have h := (by rw [hw]; exact h.drewN q : PoolAt w4 b m x g); have v1 := (by rw [hw]; exact hL.out.v1 : w4.cell? ⟨0, 0, none⟩ = some (sent (A 1))); have v6 := (by rw [hw]; exact hL.out.v6 : w4.cell? ⟨7, 0, none⟩ = some (sent (A 6))); clear hw; clear c0 c1; have c0 := h.c0; have c1 := h.c1))
          go_ret
          exact ⟨_, rfl, ErrIs.is 1 (by omega) e1.out, by rw [St.join_no e1.out (by omega)]; exact h.more (by omega), hK0.out⟩
  · exact prog_join_bad b m g x o n hb A sh w hL h

set_option maxRecDepth 100000 in
set_option maxHeartbeats 2000000 in
theorem prog_take_bad (b m g : Nat) (x : St) (o n : Int) (hb : ¬ Act1 o n) (A : Nat → Addr) (sh : Bool) (w : World) (hL : PoolLaid w A sh) (h : PoolAt w b m x g) :
    Calls Tryz.prog 196 #[.pointer (some ⟨b, 0, none⟩), .int .i64 o, .int .i64 n] w fun e w' => ∃ ev, e = .returned ev ∧ ErrIs A ev (x.takeC o n) ∧ PoolAt w' b m (x.take o n) (g + 4) ∧ Kept [b, m] w w' := by
  have e1 := hide (St.takeC_bad (x := x) hb)
  have v1 := hL.v1
  unfold Act1 at hb
  by_cases ho : 0 ≤ o ∧ o < 6
  · have I := owner_yes o ho.1 ho.2
    have J := some_no n (by omega)
    clear hb ho
    go_enter Tryz.func196, Tryz.ntmps196
    go_wp2_with (first | (go_at_call 117; refine (I _).mono ?_; rintro e w' ⟨rfl, rfl⟩) | (go_at_call 150; refine (J _).mono ?_; rintro e w' ⟨rfl, rfl⟩))
    go_ret
    exact ⟨_, rfl, ErrIs.is 1 (by omega) e1.out, h.stay (St.take_no e1.out (by omega)) (by omega)⟩
  · have I := owner_no o ho
    clear hb ho
    go_enter Tryz.func196, Tryz.ntmps196
    go_wp2_with (go_at_call 117; refine (I _).mono ?_; rintro e w' ⟨rfl, rfl⟩)
    go_ret
    exact ⟨_, rfl, ErrIs.is 1 (by omega) e1.out, h.stay (St.take_no e1.out (by omega)) (by omega)⟩

set_option maxRecDepth 100000 in
set_option maxHeartbeats 2000000 in
theorem prog_take (b m g : Nat) (x : St) (hx : x.Ok) (o n : Int) (ho : (Lit.int .i64 o).wf = true) (hg : g ≤ 1000000) (A : Nat → Addr) (w : World) (hL : PoolLaid w A true) (h : PoolAt w b m x g) :
    Calls Tryz.prog 196 #[.pointer (some ⟨b, 0, none⟩), .int .i64 o, .int .i64 n] w fun e w' => ∃ ev, e = .returned ev ∧ ErrIs A ev (x.takeC o n) ∧ PoolAt w' b m (x.take o n) (g + 4) ∧ Kept [b, m] w w' := by
  by_cases hb : Act1 o n
  · obtain ⟨o0, o6, n1, nM⟩ := hb
    have hb : Act1 o n := ⟨o0, o6, n1, nM⟩
    have t0 := hx.t0
    have t1 := hx.t1
    have a0 := hx.a0
    have a1 := hx.a1
    have v5 := hL.v5 rfl
    have I := owner_yes o o0 o6
    have J := some_yes n n1 nM
    have VV := hide (fun w' (h' : PoolAt w' b m x g) => prog_value b m g x hx o ho w' h')
    by_cases hv : n ≤ x.val o
    · obtain ⟨hA, hT, hnT, k0, k1, _⟩ := hx.take_in n1 hv
      have l1 := hx.le_all o
      have P : ∀ w, Calls Tryz.prog 204 #[.int .i64 n, .int .i64 x.A, .int .i64 x.T] w fun e w' => e = .returned (.tuple #[.int .i64 (x.takeK n), .nilIface]) ∧ ∃ n, w' = w.drewN n := up_yes n x.A x.T ⟨by omega, nM, a0, a1, by omega, t1⟩ (by show x.takeK n ≤ _; omega)
      by_cases h2 : x.takeK n = x.A ∧ n < x.T
      · have e1 := hide (St.takeC_all hb hv h2.1 h2.2)
        have t2 : (x.takeK n == x.A) = true := by simp [h2.1]
        have t3 : (n == x.T) = false := by simp; have := h2.2; omega
        clear h2 hb
        go_enter Tryz.func196, Tryz.ntmps196
        go_wp2_with (first
          | (go_at_call 117; refine (I _).mono ?_; rintro e w' ⟨rfl, rfl⟩) | (go_at_call 150; refine (J _).mono ?_; rintro e w' ⟨rfl, rfl⟩)
          | (go_at_call 138; refine (VV.out _ h).mono ?_; rintro e w4 ⟨rfl, q, hw⟩; have hK0 := hide (by rw [hw]; exact (Kept.refl _ _).drewN q : Kept [b, m] _ w4); have h := (by rw [hw]; exact h.drewN q : PoolAt w4 b m x g); have v5 := (by rw [hw]; exact v5 : w4.cell? ⟨6, 0, none⟩ = some (sent (A 5))); clear hw; have c0 := h.c0; have c1 := h.c1))
        go_quiet ((go_at_call 204; exact Calls.quiet_of (P _)))
        go_wp2
        go_ret
        exact ⟨_, rfl, ErrIs.is 5 (by omega) e1.out, by rw [St.take_no e1.out (by omega)]; exact (h.drewN nq).more (by omega), hK0.out.drewN nq⟩
      · have e1 := hide (St.takeC_fine hb hv h2)
        have DD := hide (fun w' (h' : PoolAt w' b m x g) => prog_drop b m g x hx o (x.takeK n) n o0 o6 k0 k1 (by omega) hnT hg w' h')
        by_cases h3 : x.takeK n = x.A
        · have t2 : (x.takeK n == x.A) = true := by simp [h3]
          have t3 : (n == x.T) = true := by simp; have : ¬ n < x.T := fun g => h2 ⟨h3, g⟩; omega
          clear h2 h3 hb
          go_enter Tryz.func196, Tryz.ntmps196
          go_wp2_with (first
            | (go_at_call 117; refine (I _).mono ?_; rintro e w' ⟨rfl, rfl⟩) | (go_at_call 150; refine (J _).mono ?_; rintro e w' ⟨rfl, rfl⟩)
            | (go_at_call 138; refine (VV.out _ h).mono ?_; rintro e w4 ⟨rfl, q, hw⟩; have hK0 := hide (by rw [hw]; exact (Kept.refl _ _).drewN q : Kept [b, m] _ w4); have h := (by rw [hw]; exact h.drewN q : PoolAt w4 b m x g); have v5 := (by rw [hw]; exact v5 : w4.cell? ⟨6, 0, none⟩ = some (sent (A 5))); clear hw; have c0 := h.c0; have c1 := h.c1))
          go_quiet ((go_at_call 204; exact Calls.quiet_of (P _)))
          go_wp2_with (go_at_call 205; refine (DD.out _ (h.drewN _)).mono ?_; rintro e w5 ⟨rfl, hP5, hK5⟩)
          go_ret
          exact ⟨_, rfl, ErrIs.no e1.out, by rw [St.take_yes e1.out]; exact hP5, (hK0.out.drewN nq).trans hK5⟩
        · have t2 : (x.takeK n == x.A) = false := by simp [h3]
          clear h2 h3 hb
          go_enter Tryz.func196, Tryz.ntmps196
          go_wp2_with (first
            | (go_at_call 117; refine (I _).mono ?_; rintro e w' ⟨rfl, rfl⟩) | (go_at_call 150; refine (J _).mono ?_; rintro e w' ⟨rfl, rfl⟩)
            | (go_at_call 138; refine (VV.out _ h).mono ?_; rintro e w4 ⟨rfl, q, hw⟩; have hK0 := hide (by rw [hw]; exact (Kept.refl _ _).drewN q : Kept [b, m] _ w4); have h := (by rw [hw]; exact h.drewN q : PoolAt w4 b m x g); have v5 := (by rw [hw]; exact v5 : w4.cell? ⟨6, 0, none⟩ = some (sent (A 5))); clear hw; have c0 := h.c0; have c1 := h.c1))
          go_quiet ((go_at_call 204; exact Calls.quiet_of (P _)))
          go_wp2_with (go_at_call 205; refine (DD.out _ (h.drewN _)).mono ?_; rintro e w5 ⟨rfl, hP5, hK5⟩)
          go_ret
          exact ⟨_, rfl, ErrIs.no e1.out, by rw [St.take_yes e1.out]; exact hP5, (hK0.out.drewN nq).trans hK5⟩
    · have e1 := hide (St.takeC_short (x := x) hb (by omega))
      clear hb
      go_enter Tryz.func196, Tryz.ntmps196
      go_wp2_with (first
        | (go_at_call 117; refine (I _).mono ?_; rintro e w' ⟨rfl, rfl⟩) | (go_at_call 150; refine (J _).mono ?_; rintro e w' ⟨rfl, rfl⟩)
        | (go_at_call 138; refine (VV.out _ h).mono ?_; rintro e w' ⟨rfl, q, rfl⟩))
      go_ret
      exact ⟨_, rfl, ErrIs.is 5 (by omega) e1.out, h.stayN (St.take_no e1.out (by omega)) (by omega) _⟩
  · exact prog_take_bad b m g x o n hb A true w hL h
end Go.Proofs.YtaihcceobnfmhaaGreatDoor
