/-
  The program's pool by its contracts: what it tells.
-/
import Derived.Test.YtlhffdmhbplpjaaDoorKept
import Derived.Test.YtlhffdmhbplpjaaDoorPart
import Derived.Test.YtlhffdmhbplpjaaDoorErrIs
import Derived.Test.YtlhffdmhbplpjaaDoorPoolMath
import Derived.Maps.OwnSet
import Derived.Maps.OwnOps
import Derived.Deep.QuietTactic
import Derived.BigQuiet
namespace Go.Proofs.YtlhffdmhbplpjaaDoor
open Go.RowKit Go.Maps

theorem keyed : Keyed Tryd.prog 3 := int_keyed Tryd.underlying3
theorem zeroInt (w : World) : (zeroValue 3).run Tryd.prog w = .ok (.int .i64 0) w := by kernel_rfl

theorem lit_int {H : Type} {a b : Int} (h : (DataW.lit (.int .i64 a) : DataW H) = .lit (.int .i64 b)) : a = b := by cases h; rfl

/-- what the pool's errors hold -/
structure PoolLaid (w : World) (A : Nat → Addr) (short : Bool) : Prop where
  v1 : w.cell? ⟨1, 0, none⟩ = some (sent (A 1))
  v3 : w.cell? ⟨3, 0, none⟩ = some (sent (A 3))
  v5 : short = true → w.cell? ⟨5, 0, none⟩ = some (sent (A 5))
  v6 : w.cell? ⟨6, 0, none⟩ = some (sent (A 6))
  v7 : w.cell? ⟨7, 0, none⟩ = some (sent (A 7))
theorem PoolLaid.below {w w' : World} {A : Nat → Addr} {s : Bool} (h : PoolLaid w A s) (hB : Below w.heap.size w w') : PoolLaid w' A s :=
  ⟨old_cell hB h.v1, old_cell hB h.v3, fun e => old_cell hB (h.v5 e), old_cell hB h.v6, old_cell hB h.v7⟩
theorem PoolLaid.drewN {w : World} {A : Nat → Addr} {s : Bool} (h : PoolLaid w A s) (n : Nat) : PoolLaid (w.drewN n) A s := h.below (below_drewN (Below.refl _ _) n)

/-- a map that holds so much for each int -/
def OwnS (w : World) (m : Nat) (s : Int → Int) (g : Nat) : Prop := ∃ (n : Nat) (D : DataW Unit), w.ownsMap Tryd.prog 3 (plainElem Tryd.prog 3) m n D ∧ n ≤ g ∧ ∀ o : Int, (Lit.int .i64 o).wf = true → D.atKey (.int .i64 o) (.lit (.int .i64 0)) = .lit (.int .i64 (s o))
theorem OwnS.put {w : World} {m n g : Nat} {D : DataW Unit} {s : Int → Int} {o v : Int} (hm : IsMap D) (h : w.ownsMap Tryd.prog 3 (plainElem Tryd.prog 3) m (n + 1) (D.put (.int .i64 o) (.lit (.int .i64 v)))) (hn : n ≤ g)
    (hat : ∀ o : Int, (Lit.int .i64 o).wf = true → D.atKey (.int .i64 o) (.lit (.int .i64 0)) = .lit (.int .i64 (s o))) (hk : WideAt.IsKeyLit (.int .i64 o)) : OwnS w m (fun i => if i = o then v else s i) (g + 1) := by
  refine ⟨n + 1, _, h, by omega, fun i hi => ?_⟩
  show _ = DataW.lit (.int .i64 (if i = o then v else s i))
  by_cases e : i = o
  · subst e
    rw [atKey_put_same hm hk, if_pos rfl]
  · rw [atKey_put_other (fun g => e (by cases g; rfl)), if_neg e, hat i hi]
theorem OwnS.putDel {w : World} {m n g : Nat} {D d : DataW Unit} {dd : DataW Unit} {s : Int → Int} {o v : Int} (e : D = d.put (.int .i64 o) dd) (h : w.ownsMap Tryd.prog 3 (plainElem Tryd.prog 3) m (n + 1) (D.del (.int .i64 o))) (hn : n ≤ g)
    (hat : ∀ o : Int, (Lit.int .i64 o).wf = true → d.atKey (.int .i64 o) (.lit (.int .i64 0)) = .lit (.int .i64 (s o))) (hv : v = 0) : OwnS w m (fun i => if i = o then v else s i) (g + 1) := by
  refine ⟨n + 1, _, h, by omega, fun i hi => ?_⟩
  show _ = DataW.lit (.int .i64 (if i = o then v else s i))
  by_cases ei : i = o
  · subst ei
    rw [atKey_del_same, if_pos rfl, hv]
  · rw [atKey_del_other (fun g => ei (by cases g; rfl)), e, atKey_put_other (fun g => ei (by cases g; rfl)), if_neg ei, hat i hi]
theorem OwnS.del {w : World} {m n g : Nat} {D : DataW Unit} {s : Int → Int} {o : Int} (h : w.ownsMap Tryd.prog 3 (plainElem Tryd.prog 3) m n (D.del (.int .i64 o))) (hn : n ≤ g)
    (hat : ∀ o : Int, (Lit.int .i64 o).wf = true → D.atKey (.int .i64 o) (.lit (.int .i64 0)) = .lit (.int .i64 (s o))) (hz : s o = 0) : OwnS w m s g := by
  refine ⟨n, _, h, hn, fun i hi => ?_⟩
  by_cases e : i = o
  · subst e
    rw [atKey_del_same, hz]
  · rw [atKey_del_other (fun g => e (by cases g; rfl)), hat i hi]

theorem OwnS.look {w : World} {m g : Nat} {s : Int → Int} (h : OwnS w m s g) (o : Int) (ho : (Lit.int .i64 o).wf = true) : (Instr.lookup 106 (.map (some m)) (.int .i64 o) false).run Tryd.prog w = .ok (.int .i64 (s o)) w := by
  obtain ⟨n, D, hown, hn, hat⟩ := h
  obtain ⟨c, hrun, hc, _⟩ := hown.lookup_int keyed Tryd.underlying106 Tryd.underlying3 (zeroInt _) (keyOf_int_mk Tryd.underlying3 ho)
  rw [lit_int (hc.symm.trans (hat o ho))] at hrun
  exact hrun

/-- the program's pool, as it lies in memory -/
structure PoolAt (w : World) (b m : Nat) (x : St) (g : Nat) : Prop where
  c0 : w.cell? ⟨b, 0, none⟩ = some (.int .i64 x.T)
  c1 : w.cell? ⟨b, 1, none⟩ = some (.int .i64 x.A)
  c2 : w.cell? ⟨b, 2, none⟩ = some (.map (some m))
  f0 : w.frozen? ⟨b, 0, none⟩ = false
  f1 : w.frozen? ⟨b, 1, none⟩ = false
  own : OwnS w m x.s g
  ne : b ≠ m
theorem PoolAt.drewN {w : World} {b m g : Nat} {x : St} (h : PoolAt w b m x g) (n : Nat) : PoolAt (w.drewN n) b m x g := ⟨h.c0, h.c1, h.c2, h.f0, h.f1, h.own, h.ne⟩

theorem PoolAt.kept {w w' : World} {b m g : Nat} {x : St} {X : List Nat} (h : PoolAt w b m x g) (hK : Kept X w w') (hb : b ∉ X) (hm : m ∉ X) : PoolAt w' b m x g where
  c0 := hK.old h.c0 hb
  c1 := hK.old h.c1 hb
  c2 := hK.old h.c2 hb
  f0 := by rw [hK.frozen (cell_lt h.c0) hb]; exact h.f0
  f1 := by rw [hK.frozen (cell_lt h.c1) hb]; exact h.f1
  own := by
    obtain ⟨n, D, ⟨es, clock, hes, F, hs, hD⟩, hn, hat⟩ := h.own
    have hlt : m < w.heap.size := (Array.getElem?_eq_some_iff.1 hes).1
    exact ⟨n, D, ⟨es, clock, (hK.block m hlt hm).trans hes, F, hs, hD⟩, hn, hat⟩
  ne := h.ne
theorem PoolAt.lt {w : World} {b m g : Nat} {x : St} (h : PoolAt w b m x g) : b < w.heap.size ∧ m < w.heap.size := by
  obtain ⟨n, D, hown, _⟩ := h.own
  exact ⟨cell_lt h.c0, hown.lt⟩

theorem PoolAt.more {w : World} {b m g g' : Nat} {x : St} (h : PoolAt w b m x g) (hg : g ≤ g') : PoolAt w b m x g' := by
  obtain ⟨n, D, ho, hn, ha⟩ := h.own
  exact ⟨h.c0, h.c1, h.c2, h.f0, h.f1, ⟨n, D, ho, Nat.le_trans hn hg, ha⟩, h.ne⟩

/-- an owner's shares, looked up -/
theorem PoolAt.look {w : World} {b m g : Nat} {x : St} (h : PoolAt w b m x g) (o : Int) (ho : (Lit.int .i64 o).wf = true) (k : Nat) : (Instr.lookup 106 (.map (some m)) (.int .i64 o) false).run Tryd.prog (w.drewN k) = .ok (.int .i64 (x.s o)) (w.drewN k) := by
  obtain ⟨n, D, hown, hn, hat⟩ := (h.drewN k).own
  obtain ⟨c, hrun, hc, _⟩ := hown.lookup_int keyed Tryd.underlying106 Tryd.underlying3 (zeroInt _) (keyOf_int_mk Tryd.underlying3 ho)
  rw [lit_int (hc.symm.trans (hat o ho))] at hrun
  exact hrun

theorem prog_total (b m g : Nat) (x : St) (w : World) (h : PoolAt w b m x g) :
    Calls Tryd.prog 37 #[.pointer (some ⟨b, 0, none⟩)] w fun e w' => e = .returned (.int .i64 x.T) ∧ w' = w := by
  have c0 := h.c0
  go_enter Tryd.func37, Tryd.ntmps37
  go_wp2
  go_ret
  exact ⟨rfl, rfl⟩
theorem prog_all (b m g : Nat) (x : St) (w : World) (h : PoolAt w b m x g) :
    Calls Tryd.prog 38 #[.pointer (some ⟨b, 0, none⟩)] w fun e w' => e = .returned (.int .i64 x.A) ∧ w' = w := by
  have c1 := h.c1
  go_enter Tryd.func38, Tryd.ntmps38
  go_wp2
  go_ret
  exact ⟨rfl, rfl⟩
theorem prog_shares (b m g : Nat) (x : St) (o : Int) (ho : (Lit.int .i64 o).wf = true) (w : World) (h : PoolAt w b m x g) :
    Calls Tryd.prog 39 #[.pointer (some ⟨b, 0, none⟩), .int .i64 o] w fun e w' => e = .returned (.int .i64 (x.s o)) ∧ w' = w := by
  have c2 := h.c2
  obtain ⟨n, D, hown, hn, hat⟩ := h.own
  have HA := hide (hat o ho)
  clear hat
  go_enter Tryd.func39, Tryd.ntmps39
  go_wp2_with (at_lookup; refine wpList_lookup_own_int _ rfl _ _ 106 rfl 3 3 .i64 keyed Tryd.underlying106 Tryd.underlying3 (zeroInt _) m n _ rfl hown _ _ rfl (keyOf_int_mk Tryd.underlying3 ho) ?_; intro c hat hwc)
  go_ret
  exact ⟨ret_int (lit_int (hat.symm.trans HA.out)), rfl⟩

/-- what a value's product asks -/
theorem val_amounts' {x : St} (hx : x.Ok) (hA : 0 < x.A) (o : Int) : Amounts (x.s o) x.T x.A ∧ x.s o * x.T / x.A ≤ 1125899906842624 := by
  have h1 := hx.le_all o
  have h2 := hx.a1
  refine ⟨⟨hx.pos o, by omega, hx.t0, hx.t1, by omega, h2⟩, ?_⟩
  have h3 := hx.val1 o
  rw [St.val_some o hA] at h3
  have := hx.t1
  omega

set_option maxRecDepth 100000 in
set_option maxHeartbeats 1000000 in
theorem prog_value (b m g : Nat) (x : St) (hx : x.Ok) (o : Int) (ho : (Lit.int .i64 o).wf = true) (w : World) (h : PoolAt w b m x g) :
    Calls Tryd.prog 31 #[.pointer (some ⟨b, 0, none⟩), .int .i64 o] w fun e w' => e = .returned (.int .i64 (x.val o)) ∧ ∃ n, w' = w.drewN n := by
  have c0 := h.c0
  have c1 := h.c1
  have c2 := h.c2
  by_cases hA : x.A = 0
  · have tA : (x.A == 0) = true := by simp [hA]
    have hv := hide (St.val_none o hA)
    clear hA
    go_enter Tryd.func31, Tryd.ntmps31
    go_wp2
    go_ret
    exact ⟨ret_int hv.out.symm, 0, rfl⟩
  · have tA : (x.A == 0) = false := by simp [hA]
    have hA : 0 < x.A := by have := hx.a0; omega
    have hv := hide (St.val_some o hA)
    obtain ⟨hm, hq⟩ := val_amounts' hx hA o
    have P := down_yes _ _ _ hm hq
    have hrun := h.look o ho
    clear hm hq hA
    go_enter Tryd.func31, Tryd.ntmps31
    go_wp2
    go_quiet ((go_at_call 19; exact Calls.quiet_of (P _)))
    go_wp2
    go_ret
    exact ⟨ret_int hv.out.symm, _, rfl⟩
end Go.Proofs.YtlhffdmhbplpjaaDoor
