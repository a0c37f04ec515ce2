/-
  The document's stakes (bakehouseref2.Stakes) as they lie in memory.
  The document's stakes (bakehouseref2.Stakes) by their contracts: what they tell.
  The document's court (bakehouseref2.Court) as it lies in memory, and by its contracts: evidence is brought.
  The document's chain (bakehouseref2.Chain), as it lies in memory: its parts lie apart; what a step of one of them leaves.
  The document's stakes (bakehouseref2.Stakes) by their contracts: new ones; a baker is registered, joined, added to.
  The document's stakes (bakehouseref2.Stakes) by their contracts: what waits of an owner's, and all together.
-/
import Derived.Test.YtaihcceobnfmhaaGreatDoorProgPurseX
import Derived.Test.YtaihcceobnfmhaaGreatDoorAidX
import Derived.Test.YtaihcceobnfmhaaGreatDoorRefNewX
import Derived.Test.YtaihcceobnfmhaaGreatDoorRefJoin
import Derived.Test.YtaihcceobnfmhaaGreatDoorCaseRowX
import Derived.Test.YtaihcceobnfmhaaGreatDoorRefPurseActsX
import Derived.Deep.AppendLies
import Derived.Deep.RegionLaw
import Derived.Deep.QuietTactic
import Derived.BigQuiet
import Derived.Test.YtaihcceobnfmhaaGreatDoorProgChainTellsX
import Derived.Deep.RegionHeld3
namespace Go.Proofs.YtaihcceobnfmhaaGreatDoor
open Go.RowKit

/-- what waits, by baker, cycle and the block of its pool: as it lies -/
abbrev Wt : Type := Int × Int × Nat
def Wt.key (t : Wt) : Int × Int := (t.1, t.2.1)
def wrow (L : List Wt) : List Value := match L with
  | [] => []
  | t :: l => .int .i64 t.1 :: .int .i64 t.2.1 :: .pointer (some ⟨t.2.2, 0, none⟩) :: wrow l
theorem wrow_len : ∀ L : List Wt, (wrow L).length = L.length * 3
  | [] => rfl
  | _ :: l => by simp [wrow, wrow_len l]; omega
theorem wrow_append (t : Wt) : ∀ L : List Wt, wrow (L ++ [t]) = wrow L ++ [.int .i64 t.1, .int .i64 t.2.1, .pointer (some ⟨t.2.2, 0, none⟩)]
  | [] => rfl
  | _ :: l => by simp [wrow, wrow_append t l]
theorem wrow_at : ∀ (L : List Wt) (i : Nat) (t : Wt), L[i]? = some t → (wrow L)[i * 3]? = some (.int .i64 t.1) ∧ (wrow L)[i * 3 + 1]? = some (.int .i64 t.2.1) ∧ (wrow L)[i * 3 + 2]? = some (.pointer (some ⟨t.2.2, 0, none⟩))
  | [], _, _, h => by simp at h
  | u :: l, 0, t, h => by
    have e : u = t := by simpa using h
    subst e
    exact ⟨rfl, rfl, rfl⟩
  | u :: l, i + 1, t, h => by
    have := wrow_at l i t (by simpa using h)
    rw [show (i + 1) * 3 = i * 3 + 3 by omega]
    exact this
theorem wrow_set (t : Wt) : ∀ (L : List Wt) (i : Nat), i < L.length → (((wrow L).set (i * 3) (.int .i64 t.1)).set (i * 3 + 1) (.int .i64 t.2.1)).set (i * 3 + 2) (.pointer (some ⟨t.2.2, 0, none⟩)) = wrow (L.set i t)
  | [], i, h => by simp at h
  | u :: l, 0, _ => rfl
  | u :: l, i + 1, h => by
    have := wrow_set t l i (by simpa using h)
    rw [show (i + 1) * 3 = i * 3 + 3 by omega]
    show _ = _ :: _ :: _ :: wrow (l.set i t)
    rw [← this]
    rfl

/-- the document's stakes, their parts told by tags: 0 another's, 1 its own lists, 2 to 4 bakers' pools, 5 on what waits -/
structure RSkAt (tag : Nat → Nat) (w : World) (sb pb : Nat) (v : Value) (L : List Wt) (S : Sk) : Prop where
  c0 : w.cell? ⟨sb, 0, none⟩ = some (.slice (some ⟨pb, 0, none⟩) 3 3)
  c1 : w.cell? ⟨sb, 1, none⟩ = some v
  f1 : w.frozen? ⟨sb, 1, none⟩ = false
  ts : tag sb = 1
  tp : tag pb = 1
  ne : sb ≠ pb
  p : ∀ b : Nat, b < 3 → S.R b = true → ∃ x q, w.cell? ⟨pb, b, none⟩ = some (.pointer (some ⟨x, 0, none⟩)) ∧ RefAt w x q (S.P b) ∧ tag x = 2 + b ∧ tag q = 2 + b
  p0 : ∀ b : Nat, b < 3 → S.R b = false → w.cell? ⟨pb, b, none⟩ = some (.pointer none)
  fp : ∀ b : Nat, b < 3 → w.frozen? ⟨pb, b, none⟩ = false
  own : w.ownsRow 0 127 3 v L.length (wrow L)
  tv : ∀ g, v.ownBlock = some g → tag g = 1 ∧ g ≠ sb ∧ g ≠ pb
  keys : S.K = L.map Wt.key
  wat : ∀ i t, L[i]? = some t → ∃ q, RefAt w t.2.2 q (S.W t.1 t.2.1) ∧ tag t.2.2 = 5 + i ∧ tag q = 5 + i
  tin : ∀ k, tag k ≠ 0 → k < w.heap.size
/-- the document's stakes, and what blocks are theirs -/
def RSk (F : Nat → Prop) (w : World) (sb : Nat) (S : Sk) : Prop := ∃ tag pb v L, (∀ k, F k ↔ tag k ≠ 0) ∧ RSkAt tag w sb pb v L S

theorem RefAt.keptP {w w' : World} {b q : Nat} {x : St} {F : Nat → Prop} (h : RefAt w b q x) (hK : KeptP F w w') (hb : ¬ F b) (hq : ¬ F q) : RefAt w' b q x where
  c0 := hK.old h.c0 hb
  c1 := h.c1.imp fun _ g => hK.old g hb
  s := fun i hi => hK.old (h.s i hi) hq
  f0 := by rw [hK.frozen (cell_lt h.c0) hb]; exact h.f0
  fs := fun i hi => by rw [hK.frozen (cell_lt (h.s i hi)) hq]; exact h.fs i hi
  ne := h.ne
/-- what turns where another one's part or none of its own lies leaves it -/
theorem RSkAt.keptP {tag : Nat → Nat} {w w' : World} {sb pb : Nat} {v : Value} {L : List Wt} {S : Sk} {F : Nat → Prop} (h : RSkAt tag w sb pb v L S) (hK : KeptP F w w') (hF : ∀ k, F k → tag k = 0) : RSkAt tag w' sb pb v L S := by
  have no : ∀ k, tag k ≠ 0 → ¬ F k := fun k hk g => hk (hF k g)
  have ns := no sb (by rw [h.ts]; decide)
  have np := no pb (by rw [h.tp]; decide)
  have nz : ∀ n k : Nat, tag k = n + 1 → ¬ F k := fun n k e => no k (by rw [e]; exact Nat.succ_ne_zero n)
  refine ⟨hK.old h.c0 ns, hK.old h.c1 ns, ?_, h.ts, h.tp, h.ne, fun b hb hr => ?_, fun b hb hr => hK.old (h.p0 b hb hr) np, fun b hb => ?_, ownsRow_keptP h.own hK (fun g e => nz 0 g (h.tv g e).1), h.tv, h.keys, fun i t ht => ?_, fun k hk => Nat.lt_of_lt_of_le (h.tin k hk) hK.size⟩
  · rw [hK.frozen (p := ⟨sb, 1, none⟩) (cell_lt h.c1) ns]; exact h.f1
  · obtain ⟨x, q, hc, hR, hx, hq⟩ := h.p b hb hr
    exact ⟨x, q, hK.old hc np, hR.keptP hK (nz (1 + b) x (by omega)) (nz (1 + b) q (by omega)), hx, hq⟩
  · have : (⟨pb, b, none⟩ : Addr).block < w.heap.size := h.tin pb (by rw [h.tp]; decide)
    rw [hK.frozen this np]; exact h.fp b hb
  · obtain ⟨q, hR, hx, hq⟩ := h.wat i t ht
    exact ⟨q, hR.keptP hK (nz (4 + i) _ (by omega)) (nz (4 + i) q (by omega)), hx, hq⟩
theorem RSkAt.drewN {tag : Nat → Nat} {w : World} {sb pb : Nat} {v : Value} {L : List Wt} {S : Sk} (h : RSkAt tag w sb pb v L S) (n : Nat) : RSkAt tag (w.drewN n) sb pb v L S := h.keptP (F := fun _ => False) ((KeptP.refl _ _).drewN n) (fun _ g => g.elim)
theorem RSk.keptP {F G : Nat → Prop} {w w' : World} {sb : Nat} {S : Sk} (h : RSk F w sb S) (hK : KeptP G w w') (hF : ∀ k, G k → ¬ F k) : RSk F w' sb S := by
  obtain ⟨tag, pb, v, L, hf, h⟩ := h
  exact ⟨tag, pb, v, L, hf, h.keptP hK fun k g => Classical.byContradiction fun e => hF k g ((hf k).2 e)⟩
theorem RSk.lt {F : Nat → Prop} {w : World} {sb : Nat} {S : Sk} (h : RSk F w sb S) (k : Nat) (hk : F k) : k < w.heap.size := by
  obtain ⟨tag, pb, v, L, hf, h⟩ := h
  exact h.tin k ((hf k).1 hk)
theorem RSk.drewN {F : Nat → Prop} {w : World} {sb : Nat} {S : Sk} (h : RSk F w sb S) (n : Nat) : RSk F (w.drewN n) sb S := by
  obtain ⟨tag, pb, v, L, hf, h⟩ := h
  exact ⟨tag, pb, v, L, hf, h.drewN n⟩

/-- a baker's pool turned -/
theorem RSkAt.pool {tag : Nat → Nat} {w w' : World} {sb pb : Nat} {v : Value} {L : List Wt} {S : Sk} (h : RSkAt tag w sb pb v L S) (b : Nat) (hb : b < 3) (hr : S.R b = true) {x q : Nat} {y : St}
    (hx : tag x = 2 + b) (hq : tag q = 2 + b) (hc : w.cell? ⟨pb, b, none⟩ = some (.pointer (some ⟨x, 0, none⟩))) (hR : RefAt w' x q y) (hK : Kept [x, q] w w') : RSkAt tag w' sb pb v L ⟨S.R, set1 S.P b y, S.K, S.W⟩ := by
  have nx : ∀ k, tag k ≠ 2 + b → k ∉ [x, q] := fun k hk g => by
    rcases List.mem_cons.1 g with e | e
    · exact hk (e ▸ hx)
    · exact hk (by rw [List.mem_singleton.1 e]; exact hq)
  have hP : KeptP (fun k => tag k = 2 + b) w w' := KeptP.of_kept hK fun k g => Classical.byContradiction fun e => nx k e g
  have ns : ¬ tag sb = 2 + b := by rw [h.ts]; omega
  have np : ¬ tag pb = 2 + b := by rw [h.tp]; omega
  refine ⟨hP.old h.c0 ns, hP.old h.c1 ns, ?_, h.ts, h.tp, h.ne, fun c hcc hrc => ?_, fun c hcc hrc => hP.old (h.p0 c hcc hrc) np, fun c hcc => ?_, ownsRow_keptP h.own hP (fun g e g2 => by rw [(h.tv g e).1] at g2; omega), h.tv, h.keys, fun i t ht => ?_, fun k hk => Nat.lt_of_lt_of_le (h.tin k hk) hP.size⟩
  · rw [hP.frozen (p := ⟨sb, 1, none⟩) (cell_lt h.c1) ns]; exact h.f1
  · by_cases e : c = b
    · subst e
      refine ⟨x, q, hP.old hc np, ?_, hx, hq⟩
      show RefAt w' x q (set1 S.P c y c)
      rw [set1_same]; exact hR
    · obtain ⟨x', q', hc', hR', hx', hq'⟩ := h.p c hcc hrc
      refine ⟨x', q', hP.old hc' np, ?_, hx', hq'⟩
      show RefAt w' x' q' (set1 S.P b y c)
      rw [set1_other _ _ _ _ (by omega)]
      exact hR'.keptP hP (by omega) (by omega)
  · have : (⟨pb, c, none⟩ : Addr).block < w.heap.size := h.tin pb (by rw [h.tp]; decide)
    rw [hP.frozen this np]; exact h.fp c hcc
  · obtain ⟨q', hR', hx', hq'⟩ := h.wat i t ht
    exact ⟨q', hR'.keptP hP (by omega) (by omega), hx', hq'⟩
/-- what waits turned, at one place -/
theorem RSkAt.wait {tag : Nat → Nat} {w w' : World} {sb pb : Nat} {v : Value} {L : List Wt} {S : Sk} (h : RSkAt tag w sb pb v L S) (hn : S.K.Nodup) (i : Nat) (t : Wt) (ht : L[i]? = some t) {q : Nat} {y : St}
    (hx : tag t.2.2 = 5 + i) (hq : tag q = 5 + i) (hR : RefAt w' t.2.2 q y) (hK : Kept [t.2.2, q] w w') : RSkAt tag w' sb pb v L ⟨S.R, S.P, S.K, set2 S.W t.1 t.2.1 y⟩ := by
  have nx : ∀ k, tag k ≠ 5 + i → k ∉ [t.2.2, q] := fun k hk g => by
    rcases List.mem_cons.1 g with e | e
    · exact hk (e ▸ hx)
    · exact hk (by rw [List.mem_singleton.1 e]; exact hq)
  have hP : KeptP (fun k => tag k = 5 + i) w w' := KeptP.of_kept hK fun k g => Classical.byContradiction fun e => nx k e g
  have ns : ¬ tag sb = 5 + i := by rw [h.ts]; omega
  have np : ¬ tag pb = 5 + i := by rw [h.tp]; omega
  refine ⟨hP.old h.c0 ns, hP.old h.c1 ns, ?_, h.ts, h.tp, h.ne, fun c hcc hrc => ?_, fun c hcc hrc => hP.old (h.p0 c hcc hrc) np, fun c hcc => ?_, ownsRow_keptP h.own hP (fun g e g2 => by rw [(h.tv g e).1] at g2; omega), h.tv, h.keys, fun j u hu => ?_, fun k hk => Nat.lt_of_lt_of_le (h.tin k hk) hP.size⟩
  · rw [hP.frozen (p := ⟨sb, 1, none⟩) (cell_lt h.c1) ns]; exact h.f1
  · obtain ⟨x', q', hc', hR', hx', hq'⟩ := h.p c hcc hrc
    exact ⟨x', q', hP.old hc' np, hR'.keptP hP (by omega) (by omega), hx', hq'⟩
  · have : (⟨pb, c, none⟩ : Addr).block < w.heap.size := h.tin pb (by rw [h.tp]; decide)
    rw [hP.frozen this np]; exact h.fp c hcc
  · obtain ⟨q', hR', hx', hq'⟩ := h.wat j u hu
    by_cases e : j = i
    · subst e
      obtain rfl : u = t := Option.some.inj (hu.symm.trans ht)
      refine ⟨q, ?_, hx, hq⟩
      show RefAt w' u.2.2 q (set2 S.W u.1 u.2.1 y u.1 u.2.1)
      rw [set2_same]; exact hR
    · have ne : (u.1, u.2.1) ≠ (t.1, t.2.1) := fun g => e (by
        have hl : j < (L.map Wt.key).length := by rw [List.length_map]; exact (List.getElem?_eq_some_iff.1 hu).1
        rw [h.keys] at hn
        refine (List.getElem?_inj hl hn).1 ?_
        rw [List.getElem?_map, List.getElem?_map, hu, ht]
        exact congrArg some g)
      refine ⟨q', ?_, hx', hq'⟩
      show RefAt w' u.2.2 q' (set2 S.W t.1 t.2.1 y u.1 u.2.1)
      rw [set2_other _ _ _ _ _ _ ne]
      exact hR'.keptP hP (by omega) (by omega)
end Go.Proofs.YtaihcceobnfmhaaGreatDoor

namespace Go.Proofs.YtaihcceobnfmhaaGreatDoor
open Go.RowKit

theorem ret_bool {a b : Bool} (h : a = b) : Ending.returned (.bool a) = .returned (.bool b) := by rw [h]
theorem rs_is (tag : Nat → Nat) (sb pb : Nat) (v : Value) (L : List Wt) (S : Sk) (hS : S.Ok) (b : Int) (w : World) (h : RSkAt tag w sb pb v L S) :
    Calls Tryz.prog 123 #[.pointer (some ⟨sb, 0, none⟩), .int .i64 b] w fun e w' => e = .returned (.bool (S.R b)) ∧ w' = w := by
  have c0 := h.c0
  by_cases hb : 0 ≤ b ∧ b < 3
  · obtain ⟨k, rfl⟩ : ∃ k : Nat, b = k := ⟨b.toNat, by omega⟩
    have hk : k < 3 := by omega
    cases hr : S.R k with
    | true =>
      obtain ⟨x, q, hc, _⟩ := h.p k hk hr
      have hR := hide hr
      clear hr
      go_enter Tryz.func123, Tryz.ntmps123
      go_wp2
      go_ret
      exact ⟨rfl, rfl⟩
    | false =>
      have hc := h.p0 k hk hr
      have hR := hide hr
      clear hr
      go_enter Tryz.func123, Tryz.ntmps123
      go_wp2
      go_ret
      exact ⟨rfl, rfl⟩
  · have hR : Hid (S.R b = false) := by
      cases g : S.R b with
      | false => rfl
      | true => exact absurd (hS.rin b g) hb
    by_cases h0 : 0 ≤ b
    · have h3 : ¬ b < 3 := by omega
      clear hb
      go_enter Tryz.func123, Tryz.ntmps123
      go_wp2
      go_ret
      exact ⟨ret_bool hR.out.symm, rfl⟩
    · clear hb
      go_enter Tryz.func123, Tryz.ntmps123
      go_wp2
      go_ret
      exact ⟨ret_bool hR.out.symm, rfl⟩

theorem rs_staked (tag : Nat → Nat) (sb pb : Nat) (v : Value) (L : List Wt) (S : Sk) (hS : S.Ok) (b : Int) (w : World) (h : RSkAt tag w sb pb v L S) :
    Calls Tryz.prog 86 #[.pointer (some ⟨sb, 0, none⟩), .int .i64 b] w fun e w' => e = .returned (.int .i64 (S.P b).T) ∧ w' = w := by
  have I := rs_is tag sb pb v L S hS b w h
  have c0 := h.c0
  cases hr : S.R b with
  | true =>
    obtain ⟨k, rfl⟩ : ∃ k : Nat, b = k := ⟨b.toNat, by have := hS.rin b hr; omega⟩
    have hk : k < 3 := by have := hS.rin _ hr; omega
    obtain ⟨x, q, hc, hR, _⟩ := h.p k hk hr
    have t0 := hR.c0
    rw [hr] at I
    clear hr
    go_enter Tryz.func86, Tryz.ntmps86
    go_wp2_with (go_at_call 123; refine I.mono ?_; rintro e w' ⟨rfl, rfl⟩)
    go_ret
    exact ⟨rfl, rfl⟩
  | false =>
    rw [hr] at I
    have e0' : Hid ((S.P b).T = 0) := by rw [hS.pout b hr]; rfl
    clear hr
    go_enter Tryz.func86, Tryz.ntmps86
    go_wp2_with (go_at_call 123; refine I.mono ?_; rintro e w' ⟨rfl, rfl⟩)
    go_ret
    exact ⟨ret_int e0'.out.symm, rfl⟩

theorem rs_value (tag : Nat → Nat) (sb pb : Nat) (v : Value) (L : List Wt) (S : Sk) (hS : S.Ok) (o b : Int) (w : World) (h : RSkAt tag w sb pb v L S) :
    Calls Tryz.prog 81 #[.pointer (some ⟨sb, 0, none⟩), .int .i64 o, .int .i64 b] w fun e w' => e = .returned (.int .i64 ((S.P b).val o)) ∧ ∃ n, w' = w.drewN n := by
  have I := rs_is tag sb pb v L S hS b w h
  have c0 := h.c0
  cases hr : S.R b with
  | true =>
    obtain ⟨k, rfl⟩ : ∃ k : Nat, b = k := ⟨b.toNat, by have := hS.rin b hr; omega⟩
    have hk : k < 3 := by have := hS.rin _ hr; omega
    obtain ⟨x, q, hc, hR, _⟩ := h.p k hk hr
    have V := ref_value x q _ (hS.pok k) o w hR
    rw [hr] at I
    clear hr hR
    go_enter Tryz.func81, Tryz.ntmps81
    go_wp2_with (first | (go_at_call 123; refine I.mono ?_; rintro e w' ⟨rfl, rfl⟩) | (go_at_call 139; refine V.mono ?_; rintro e w' ⟨rfl, m, rfl⟩))
    go_ret
    exact ⟨rfl, _, rfl⟩
  | false =>
    rw [hr] at I
    have e0' : Hid ((S.P b).val o = 0) := by rw [hS.pout b hr]; exact e0_val o
    clear hr
    go_enter Tryz.func81, Tryz.ntmps81
    go_wp2_with (go_at_call 123; refine I.mono ?_; rintro e w' ⟨rfl, rfl⟩)
    go_ret
    exact ⟨ret_int e0'.out.symm, 0, rfl⟩

/-- where a key lies, or that it is none -/
def foundAt (L : List Wt) (b c i : Int) : Prop := (i = -1 ∧ (b, c) ∉ L.map Wt.key) ∨ ∃ (j : Nat) (t : Wt), i = j ∧ L[j]? = some t ∧ t.1 = b ∧ t.2.1 = c
theorem RSkAt.row {tag : Nat → Nat} {w : World} {sb pb : Nat} {v : Value} {L : List Wt} {S : Sk} (h : RSkAt tag w sb pb v L S) (hl : 0 < L.length) : ∃ g cap, v = .slice (some ⟨g, 0, none⟩) L.length cap ∧ (∀ i t, L[i]? = some t → w.cell? ⟨g, i * 3, none⟩ = some (.int .i64 t.1) ∧ w.cell? ⟨g, i * 3 + 1, none⟩ = some (.int .i64 t.2.1) ∧ w.cell? ⟨g, i * 3 + 2, none⟩ = some (.pointer (some ⟨t.2.2, 0, none⟩))) ∧ (∀ j, w.frozen? ⟨g, j, none⟩ = false) := by
  rcases h.own.2 with ⟨_, h0⟩ | ⟨g, cap, cur, rfl, _⟩
  · omega
  · refine ⟨g, cap, rfl, fun i t ht => ?_, fun j => h.own.frozenAt j⟩
    have hi := (List.getElem?_eq_some_iff.1 ht).1
    obtain ⟨a, b, c⟩ := wrow_at L i t ht
    exact ⟨(h.own.cellAt _ (by omega)).trans a, (h.own.cellAt _ (by omega)).trans b, (h.own.cellAt _ (by omega)).trans c⟩
theorem RSkAt.shape {tag : Nat → Nat} {w : World} {sb pb : Nat} {v : Value} {L : List Wt} {S : Sk} (h : RSkAt tag w sb pb v L S) : ∃ a cap, v = .slice a L.length cap := by
  rcases h.own.2 with ⟨e, h0⟩ | ⟨g, cap, cur, e, _⟩
  · exact ⟨none, 0, by rw [e, h0]⟩
  · exact ⟨_, _, e⟩
set_option maxRecDepth 100000 in
set_option maxHeartbeats 1000000 in
theorem rs_find (tag : Nat → Nat) (sb pb : Nat) (v : Value) (L : List Wt) (S : Sk) (b c : Int) (hL : L.length ≤ 1000) (w : World) (h : RSkAt tag w sb pb v L S) :
    Calls Tryz.prog 128 #[.pointer (some ⟨sb, 0, none⟩), .int .i64 b, .int .i64 c] w fun e w' => (∃ i, e = .returned (.int .i64 i) ∧ foundAt L b c i) ∧ w' = w := by
  have c1 := h.c1
  obtain ⟨a, cap, rfl⟩ := h.shape
  go_enter Tryz.func128, Tryz.ntmps128
  go_wp2
  go_loopw [6, 7] (fun r i wr => ∃ k : Nat, k ≤ L.length ∧ r = .int .i64 0 ∧ i = .int .i64 k ∧ wr = w ∧ Hid (∀ (j : Nat) (t : Wt), j < k → L[j]? = some t → ¬ (t.1 = b ∧ t.2.1 = c))) (fun _ i _ => L.length - (intOf i).toNat)
  case atStart => exact ⟨0, Nat.zero_le _, rfl, rfl, rfl, fun j t hj => absurd hj (Nat.not_lt_zero j)⟩
  case round =>
    obtain ⟨k, hk, rfl, rfl, rfl, hno⟩ := hrel
    by_cases hlt : k < L.length
    · obtain ⟨g, cap', e, hc, _⟩ := h.row (by omega)
      obtain ⟨rfl, rfl⟩ : a = some ⟨g, 0, none⟩ ∧ cap = cap' := by cases e; exact ⟨rfl, rfl⟩
      obtain ⟨t, ht⟩ : ∃ t, L[k]? = some t := ⟨L[k], List.getElem?_eq_getElem hlt⟩
      obtain ⟨d0, d1, _⟩ := hc k t ht
      by_cases e1 : t.1 = b
      · by_cases e2 : t.2.1 = c
        · have T1 : (t.1 == b) = true := by simp [e1]
          have T2 : (t.2.1 == c) = true := by simp [e2]
          have E : Hid (foundAt L b c k) := .inr ⟨k, t, rfl, ht, e1, e2⟩
          clear e1 e2 hno e hc ht h
          go_wp2
          go_ret
          exact ⟨⟨_, rfl, E.out⟩, rfl⟩
        · have T1 : (t.1 == b) = true := by simp [e1]
          have T2 : (t.2.1 == c) = false := by simp [e2]
          have E : Hid (∀ (j : Nat) (t : Wt), j < k + 1 → L[j]? = some t → ¬ (t.1 = b ∧ t.2.1 = c)) := fun j u hj hu g => by
            rcases Nat.lt_or_eq_of_le (Nat.le_of_lt_succ hj) with l | l
            · exact hno.out j u l hu g
            · subst l; rw [ht] at hu; cases hu; exact e2 g.2
          clear e1 e2 hno e hc ht h
          go_wp2
          go_roundw
          case rel => exact ⟨k + 1, by omega, rfl, by go_num, trivial, E⟩
          case measure => simp [intOf]; omega
      · have T1 : (t.1 == b) = false := by simp [e1]
        have E : Hid (∀ (j : Nat) (t : Wt), j < k + 1 → L[j]? = some t → ¬ (t.1 = b ∧ t.2.1 = c)) := fun j u hj hu g => by
          rcases Nat.lt_or_eq_of_le (Nat.le_of_lt_succ hj) with l | l
          · exact hno.out j u l hu g
          · subst l; rw [ht] at hu; cases hu; exact e1 g.1
        clear e1 hno e hc ht h
        go_wp2
        go_roundw
        case rel => exact ⟨k + 1, by omega, rfl, by go_num, trivial, E⟩
        case measure => simp [intOf]; omega
    · obtain rfl : k = L.length := by omega
      have E : Hid (foundAt L b c (-1)) := .inl ⟨rfl, fun g => by
        obtain ⟨t, ht, e⟩ := List.mem_map.1 g
        obtain ⟨j, hj, ej⟩ := List.mem_iff_getElem.1 ht
        cases e
        exact hno.out j t hj (by rw [List.getElem?_eq_getElem hj, ej]) ⟨rfl, rfl⟩⟩
      clear hno h
      go_wp2
      go_ret
      exact ⟨⟨_, rfl, E.out⟩, rfl⟩
end Go.Proofs.YtaihcceobnfmhaaGreatDoor

namespace Go.Proofs.YtaihcceobnfmhaaGreatDoor
open Go.RowKit

/-- the document's court -/
structure RCtAt (w : World) (cb : Nat) (v : Value) (x : Ct) : Prop where
  c0 : w.cell? ⟨cb, 0, none⟩ = some v
  c1 : w.cell? ⟨cb, 1, none⟩ = some (.int .i64 x.done)
  f0 : w.frozen? ⟨cb, 0, none⟩ = false
  f1 : w.frozen? ⟨cb, 1, none⟩ = false
  own : w.ownsRow 0 172 4 v x.L.length (crow x.L)
  tv : v.ownBlock ≠ some cb
def RCt (F : Nat → Prop) (w : World) (cb : Nat) (x : Ct) : Prop := ∃ v, (∀ k, F k ↔ (k = cb ∨ v.ownBlock = some k)) ∧ RCtAt w cb v x
theorem RCtAt.shape {w : World} {cb : Nat} {v : Value} {x : Ct} (h : RCtAt w cb v x) : ∃ a cap, v = .slice a x.L.length cap := by
  rcases h.own.2 with ⟨e, h0⟩ | ⟨g, cap, cur, e, _⟩
  · exact ⟨none, 0, by rw [e, h0]⟩
  · exact ⟨_, _, e⟩
theorem RCtAt.row {w : World} {cb : Nat} {v : Value} {x : Ct} (h : RCtAt w cb v x) (hl : 0 < x.L.length) : ∃ g cap, v = .slice (some ⟨g, 0, none⟩) x.L.length cap ∧ ∀ i t, x.L[i]? = some t → w.cell? ⟨g, i * 4, none⟩ = some (.int .i64 t.1) ∧ w.cell? ⟨g, i * 4 + 1, none⟩ = some (.int .i64 t.2.1) ∧ w.cell? ⟨g, i * 4 + 2, none⟩ = some (.int .i64 t.2.2.1) ∧ w.cell? ⟨g, i * 4 + 3, none⟩ = some (.int .i64 t.2.2.2) := by
  rcases h.own.2 with ⟨_, h0⟩ | ⟨g, cap, cur, rfl, _⟩
  · omega
  · refine ⟨g, cap, rfl, fun i t ht => ?_⟩
    have hi := (List.getElem?_eq_some_iff.1 ht).1
    obtain ⟨a, b, c, d⟩ := crow_at x.L i t ht
    exact ⟨(h.own.cellAt _ (by omega)).trans a, (h.own.cellAt _ (by omega)).trans b, (h.own.cellAt _ (by omega)).trans c, (h.own.cellAt _ (by omega)).trans d⟩
theorem RCtAt.keptP {w w' : World} {cb : Nat} {v : Value} {x : Ct} {G : Nat → Prop} (h : RCtAt w cb v x) (hK : KeptP G w w') (hc : ¬ G cb) (hv : ∀ g, v.ownBlock = some g → ¬ G g) : RCtAt w' cb v x := by
  refine ⟨hK.old h.c0 hc, hK.old h.c1 hc, ?_, ?_, ?_, h.tv⟩
  · rw [hK.frozen (p := ⟨cb, 0, none⟩) (cell_lt h.c0) hc]; exact h.f0
  · rw [hK.frozen (p := ⟨cb, 1, none⟩) (cell_lt h.c1) hc]; exact h.f1
  · refine ⟨h.own.1, ?_⟩
    rcases h.own.2 with g | ⟨g, cap, cur, rfl, hb, hg, h1, h2, h3, h4⟩
    · exact .inl g
    · refine .inr ⟨g, cap, cur, rfl, hb, ?_, h1, h2, h3, h4⟩
      have hlt : g < w.heap.size := by
        rcases Nat.lt_or_ge g w.heap.size with l | l
        · exact l
        · rw [Array.getElem?_eq_none l] at hg; cases hg
      rw [hK.block g hlt (hv g rfl)]
      exact hg
theorem RCt.keptP {F G : Nat → Prop} {w w' : World} {cb : Nat} {x : Ct} (h : RCt F w cb x) (hK : KeptP G w w') (hF : ∀ k, G k → ¬ F k) : RCt F w' cb x := by
  obtain ⟨v, hf, h⟩ := h
  exact ⟨v, hf, h.keptP hK (fun g => hF _ g ((hf _).2 (.inl rfl))) fun k e g => hF k g ((hf k).2 (.inr e))⟩
theorem RCt.lt {F : Nat → Prop} {w : World} {cb : Nat} {x : Ct} (h : RCt F w cb x) (k : Nat) (hk : F k) : k < w.heap.size := by
  obtain ⟨v, hf, h⟩ := h
  rcases (hf k).1 hk with rfl | e
  · exact cell_lt h.c0
  · exact (h.own.lt k e).2
end Go.Proofs.YtaihcceobnfmhaaGreatDoor

namespace Go.Proofs.YtaihcceobnfmhaaGreatDoor
open Go.RowKit

def mrow (M : List (Nat × Nat)) : List Value := M.map fun m => .slice (some ⟨m.1, 0, none⟩) 3 m.2
theorem mrow_len (M : List (Nat × Nat)) : (mrow M).length = M.length := List.length_map ..
/-- tags: 1 the chain's own, 2 its purse, 3 its stakes, 4 its court, 5 the row of its pictures, 6 pictures; 0 another's -/
structure RChAt (tag : Nat → Nat) (w : World) (cb pb pq sb kb : Nat) (v : Value) (M : List (Nat × Nat)) (C : Ch) : Prop where
  c0 : w.cell? ⟨cb, 0, none⟩ = some (.pointer (some ⟨pb, 0, none⟩))
  c1 : w.cell? ⟨cb, 1, none⟩ = some (.pointer (some ⟨sb, 0, none⟩))
  c2 : w.cell? ⟨cb, 2, none⟩ = some (.pointer (some ⟨kb, 0, none⟩))
  c3 : w.cell? ⟨cb, 3, none⟩ = some (.int .u64 C.seed)
  c4 : w.cell? ⟨cb, 4, none⟩ = some (.int .i64 C.cyc)
  c5 : w.cell? ⟨cb, 5, none⟩ = some (.int .i64 C.lev)
  c6 : w.cell? ⟨cb, 6, none⟩ = some (.int .i64 C.bon)
  c7 : w.cell? ⟨cb, 7, none⟩ = some v
  f : ∀ i, w.frozen? ⟨cb, i, none⟩ = false
  p : RPu w pb pq C.p
  s : RSk (fun k => tag k = 3) w sb C.s
  c : RCt (fun k => tag k = 4) w kb C.c
  own : w.ownsRow 0 31 1 v C.pics.length (mrow M)
  pic : ∀ (i : Nat) (m : Nat × Nat) (W : Nat → Int), M[i]? = some m → C.pics[i]? = some W → Ints w m.1 0 3 W
  tc : tag cb = 1
  tp : tag pb = 2
  tq : tag pq = 2
  tv : ∀ q, v.ownBlock = some q → tag q = 5
  tm : ∀ m, m ∈ M → tag m.1 = 6
  lt : ∀ k, tag k ≠ 0 → k < w.heap.size
def RCh (F : Nat → Prop) (w : World) (cb : Nat) (C : Ch) : Prop := ∃ tag pb pq sb kb v M, (∀ k, F k ↔ tag k ≠ 0) ∧ RChAt tag w cb pb pq sb kb v M C
theorem RChAt.lenM {tag : Nat → Nat} {w : World} {cb pb pq sb kb : Nat} {v : Value} {M : List (Nat × Nat)} {C : Ch} (h : RChAt tag w cb pb pq sb kb v M C) : M.length = C.pics.length := by
  have := h.own.1
  rw [mrow_len] at this
  omega
theorem RChAt.keptP {tag : Nat → Nat} {w w' : World} {cb pb pq sb kb : Nat} {v : Value} {M : List (Nat × Nat)} {C : Ch} {G : Nat → Prop} (h : RChAt tag w cb pb pq sb kb v M C) (hK : KeptP G w w') (hG : ∀ k, G k → tag k = 0) : RChAt tag w' cb pb pq sb kb v M C := by
  have no : ∀ {k}, tag k ≠ 0 → ¬ G k := fun hk g => hk (hG _ g)
  have nc : ¬ G cb := no (by rw [h.tc]; decide)
  have lcb : cb < w.heap.size := cell_lt h.c0
  have np : ¬ G pb := no (by rw [h.tp]; decide)
  have nq : ¬ G pq := no (by rw [h.tq]; decide)
  have lp := cell_lt h.p.c0
  have lq := cell_lt (h.p.s 0 (by omega))
  exact { c0 := hK.old h.c0 nc, c1 := hK.old h.c1 nc, c2 := hK.old h.c2 nc, c3 := hK.old h.c3 nc, c4 := hK.old h.c4 nc, c5 := hK.old h.c5 nc, c6 := hK.old h.c6 nc, c7 := hK.old h.c7 nc
          f := fun i => by rw [hK.frozen (p := ⟨cb, i, none⟩) lcb nc]; exact h.f i
          p := ⟨hK.old h.p.c0 np, hK.old h.p.c1 np, fun i hi => hK.old (h.p.s i hi) nq, by rw [hK.frozen (p := ⟨pb, 1, none⟩) lp np]; exact h.p.f1, fun i hi => by rw [hK.frozen (p := ⟨pq, i, none⟩) lq nq]; exact h.p.fs i hi, h.p.ne⟩
          s := h.s.keptP hK fun k g e => by rw [hG k g] at e; cases e
          c := h.c.keptP hK fun k g e => by rw [hG k g] at e; cases e
          own := ownsRow_keptP h.own hK fun q e => no (by rw [h.tv q e]; decide)
          pic := fun i m W hm hW j hj => hK.old (h.pic i m W hm hW j hj) (no (by rw [h.tm m (List.mem_of_getElem? hm)]; decide))
          tc := h.tc, tp := h.tp, tq := h.tq, tv := h.tv, tm := h.tm
          lt := fun k hk => Nat.lt_of_lt_of_le (h.lt k hk) hK.size }
theorem RCh.keptP {F G : Nat → Prop} {w w' : World} {cb : Nat} {C : Ch} (h : RCh F w cb C) (hK : KeptP G w w') (hF : ∀ k, G k → ¬ F k) : RCh F w' cb C := by
  obtain ⟨tag, pb, pq, sb, kb, v, M, hf, h⟩ := h
  exact ⟨tag, pb, pq, sb, kb, v, M, hf, h.keptP hK fun k g => by
    rcases Nat.eq_zero_or_pos (tag k) with e | e
    · exact e
    · exact absurd ((hf k).2 (by omega)) (hF k g)⟩
theorem RCh.lt {F : Nat → Prop} {w : World} {cb : Nat} {C : Ch} (h : RCh F w cb C) (k : Nat) (hk : F k) : k < w.heap.size := by
  obtain ⟨tag, pb, pq, sb, kb, v, M, hf, h⟩ := h
  exact h.lt k ((hf k).1 hk)
/-- the purse was at work -/
theorem RChAt.purse {tag : Nat → Nat} {w w' : World} {cb pb pq sb kb : Nat} {v : Value} {M : List (Nat × Nat)} {C : Ch} {x : Pu} (h : RChAt tag w cb pb pq sb kb v M C) (hp : RPu w' pb pq x) (hK : Kept [pb, pq] w w') : RChAt tag w' cb pb pq sb kb v M { C with p := x } := by
  have hK' : KeptP (fun k => tag k = 2) w w' := KeptP.of_kept hK fun k hk => by
    rcases List.mem_cons.1 hk with e | e
    · rw [e]; exact h.tp
    · rw [List.mem_singleton.1 e]; exact h.tq
  have nc : ¬ tag cb = 2 := by rw [h.tc]; decide
  have lcb : cb < w.heap.size := cell_lt h.c0
  exact { c0 := hK'.old h.c0 nc, c1 := hK'.old h.c1 nc, c2 := hK'.old h.c2 nc, c3 := hK'.old h.c3 nc, c4 := hK'.old h.c4 nc, c5 := hK'.old h.c5 nc, c6 := hK'.old h.c6 nc, c7 := hK'.old h.c7 nc
          f := fun i => by rw [hK'.frozen (p := ⟨cb, i, none⟩) lcb nc]; exact h.f i
          p := hp
          s := h.s.keptP hK' fun k g e => by rw [g] at e; cases e
          c := h.c.keptP hK' fun k g e => by rw [g] at e; cases e
          own := ownsRow_keptP h.own hK' fun q e => by rw [h.tv q e]; decide
          pic := fun i m W hm hW j hj => hK'.old (h.pic i m W hm hW j hj) (show ¬ tag m.1 = 2 by rw [h.tm m (List.mem_of_getElem? hm)]; decide)
          tc := h.tc, tp := h.tp, tq := h.tq, tv := h.tv, tm := h.tm
          lt := fun k hk => Nat.lt_of_lt_of_le (h.lt k hk) hK'.size }
/-- the stakes were at work -/
theorem RChAt.stakes {tag : Nat → Nat} {w w' : World} {cb pb pq sb kb : Nat} {v : Value} {M : List (Nat × Nat)} {C : Ch} {x : Sk} {G : Nat → Prop} (h : RChAt tag w cb pb pq sb kb v M C) (hs : RSk G w' sb x) (hM : Moved (fun k => tag k = 3) G w w') : RChAt (retag tag 3 G) w' cb pb pq sb kb v M { C with s := x } := by
  have hK := hM.kept
  have nc : ¬ tag cb = 3 := by rw [h.tc]; decide
  have np : ¬ tag pb = 3 := by rw [h.tp]; decide
  have nq : ¬ tag pq = 3 := by rw [h.tq]; decide
  have lcb : cb < w.heap.size := cell_lt h.c0
  have lp := cell_lt h.p.c0
  have lq := cell_lt (h.p.s 0 (by omega))
  have o : ∀ {u k}, u ≠ 3 → u ≠ 0 → tag k = u → retag tag 3 G k = u := fun ut u0 e => retag_other hM h.lt ut u0 e
  exact { c0 := hK.old h.c0 nc, c1 := hK.old h.c1 nc, c2 := hK.old h.c2 nc, c3 := hK.old h.c3 nc, c4 := hK.old h.c4 nc, c5 := hK.old h.c5 nc, c6 := hK.old h.c6 nc, c7 := hK.old h.c7 nc
          f := fun i => by rw [hK.frozen (p := ⟨cb, i, none⟩) lcb nc]; exact h.f i
          p := ⟨hK.old h.p.c0 np, hK.old h.p.c1 np, fun i hi => hK.old (h.p.s i hi) nq, by rw [hK.frozen (p := ⟨pb, 1, none⟩) lp np]; exact h.p.f1, fun i hi => by rw [hK.frozen (p := ⟨pq, i, none⟩) lq nq]; exact h.p.fs i hi, h.p.ne⟩
          s := by rw [show (fun k => retag tag 3 G k = 3) = G from funext fun k => propext (retag_iff (by decide) k)]; exact hs
          c := by rw [retag_iff' hM h.lt (by decide) (by decide)]; exact h.c.keptP hK fun k g e => by rw [g] at e; cases e
          own := ownsRow_keptP h.own hK fun q e => by rw [h.tv q e]; decide
          pic := fun i m W hm hW j hj => hK.old (h.pic i m W hm hW j hj) (show ¬ tag m.1 = 3 by rw [h.tm m (List.mem_of_getElem? hm)]; decide)
          tc := o (by decide) (by decide) h.tc, tp := o (by decide) (by decide) h.tp, tq := o (by decide) (by decide) h.tq
          tv := fun q e => o (by decide) (by decide) (h.tv q e), tm := fun m hm => o (by decide) (by decide) (h.tm m hm)
          lt := fun k hk => by
            by_cases g : G k
            · exact hs.lt k g
            · unfold retag at hk
              rw [if_neg g] at hk
              split at hk
              · exact absurd rfl hk
              · exact Nat.lt_of_lt_of_le (h.lt k hk) hK.size }
/-- the court was at work -/
theorem RChAt.court {tag : Nat → Nat} {w w' : World} {cb pb pq sb kb : Nat} {v : Value} {M : List (Nat × Nat)} {C : Ch} {x : Ct} {G : Nat → Prop} (h : RChAt tag w cb pb pq sb kb v M C) (hs : RCt G w' kb x) (hM : Moved (fun k => tag k = 4) G w w') : RChAt (retag tag 4 G) w' cb pb pq sb kb v M { C with c := x } := by
  have hK := hM.kept
  have nc : ¬ tag cb = 4 := by rw [h.tc]; decide
  have np : ¬ tag pb = 4 := by rw [h.tp]; decide
  have nq : ¬ tag pq = 4 := by rw [h.tq]; decide
  have lcb : cb < w.heap.size := cell_lt h.c0
  have lp := cell_lt h.p.c0
  have lq := cell_lt (h.p.s 0 (by omega))
  have o : ∀ {u k}, u ≠ 4 → u ≠ 0 → tag k = u → retag tag 4 G k = u := fun ut u0 e => retag_other hM h.lt ut u0 e
  exact { c0 := hK.old h.c0 nc, c1 := hK.old h.c1 nc, c2 := hK.old h.c2 nc, c3 := hK.old h.c3 nc, c4 := hK.old h.c4 nc, c5 := hK.old h.c5 nc, c6 := hK.old h.c6 nc, c7 := hK.old h.c7 nc
          f := fun i => by rw [hK.frozen (p := ⟨cb, i, none⟩) lcb nc]; exact h.f i
          p := ⟨hK.old h.p.c0 np, hK.old h.p.c1 np, fun i hi => hK.old (h.p.s i hi) nq, by rw [hK.frozen (p := ⟨pb, 1, none⟩) lp np]; exact h.p.f1, fun i hi => by rw [hK.frozen (p := ⟨pq, i, none⟩) lq nq]; exact h.p.fs i hi, h.p.ne⟩
          c := by rw [show (fun k => retag tag 4 G k = 4) = G from funext fun k => propext (retag_iff (by decide) k)]; exact hs
          s := by rw [retag_iff' hM h.lt (by decide) (by decide)]; exact h.s.keptP hK fun k g e => by rw [g] at e; cases e
          own := ownsRow_keptP h.own hK fun q e => by rw [h.tv q e]; decide
          pic := fun i m W hm hW j hj => hK.old (h.pic i m W hm hW j hj) (show ¬ tag m.1 = 4 by rw [h.tm m (List.mem_of_getElem? hm)]; decide)
          tc := o (by decide) (by decide) h.tc, tp := o (by decide) (by decide) h.tp, tq := o (by decide) (by decide) h.tq
          tv := fun q e => o (by decide) (by decide) (h.tv q e), tm := fun m hm => o (by decide) (by decide) (h.tm m hm)
          lt := fun k hk => by
            by_cases g : G k
            · exact hs.lt k g
            · unfold retag at hk
              rw [if_neg g] at hk
              split at hk
              · exact absurd rfl hk
              · exact Nat.lt_of_lt_of_le (h.lt k hk) hK.size }
/-- a number of its own is written -/
theorem RChAt.num {tag : Nat → Nat} {w : World} {cb pb pq sb kb : Nat} {v : Value} {M : List (Nat × Nat)} {C : Ch} (h : RChAt tag w cb pb pq sb kb v M C) (cy lv : Nat) (bo : Int) (i : Nat) (x : Int) (hi : (i = 4 ∧ x = cy ∧ lv = C.lev ∧ bo = C.bon) ∨ (i = 5 ∧ x = lv ∧ cy = C.cyc ∧ bo = C.bon) ∨ (i = 6 ∧ x = bo ∧ cy = C.cyc ∧ lv = C.lev)) :
    RChAt tag (w.setCell ⟨cb, i, none⟩ (.int .i64 x)) cb pb pq sb kb v M { C with cyc := cy, lev := lv, bon := bo } := by
  have hK : KeptP (fun k => tag k = 1) w (w.setCell ⟨cb, i, none⟩ (.int .i64 x)) := KeptP.setCell (F := fun k => tag k = 1) (KeptP.refl _ _) (p := ⟨cb, i, none⟩) h.tc _
  have np : ¬ tag pb = 1 := by rw [h.tp]; decide
  have nq : ¬ tag pq = 1 := by rw [h.tq]; decide
  have lp := cell_lt h.p.c0
  have lq := cell_lt (h.p.s 0 (by omega))
  have far : ∀ {j : Nat} {u : Value}, j ≠ i → w.cell? ⟨cb, j, none⟩ = some u → (w.setCell ⟨cb, i, none⟩ (.int .i64 x)).cell? ⟨cb, j, none⟩ = some u := fun {j u} ne e => by
    rw [World.cell?_setCell_other _ _ _ _ (fun z => absurd (congrArg Addr.off z) (fun z => ne z.symm))]; exact e
  have hi' : i = 4 ∨ i = 5 ∨ i = 6 := by omega
  exact { c0 := far (by omega) h.c0, c1 := far (by omega) h.c1, c2 := far (by omega) h.c2, c3 := far (by omega) h.c3
          c4 := by
            rcases hi with ⟨rfl, rfl, _⟩ | ⟨rfl, _, rfl, _⟩ | ⟨rfl, _, rfl, _⟩
            · exact World.cell?_setCell_same _ _ _ h.c4
            · exact far (by omega) h.c4
            · exact far (by omega) h.c4
          c5 := by
            rcases hi with ⟨rfl, _, rfl, _⟩ | ⟨rfl, rfl, _⟩ | ⟨rfl, _, _, rfl⟩
            · exact far (by omega) h.c5
            · exact World.cell?_setCell_same _ _ _ h.c5
            · exact far (by omega) h.c5
          c6 := by
            rcases hi with ⟨rfl, _, _, rfl⟩ | ⟨rfl, _, _, rfl⟩ | ⟨rfl, rfl, _⟩
            · exact far (by omega) h.c6
            · exact far (by omega) h.c6
            · exact World.cell?_setCell_same _ _ _ h.c6
          c7 := far (by omega) h.c7
          f := fun j => by rw [World.frozen?_setCell]; exact h.f j
          p := ⟨hK.old h.p.c0 np, hK.old h.p.c1 np, fun i hi => hK.old (h.p.s i hi) nq, by rw [hK.frozen (p := ⟨pb, 1, none⟩) lp np]; exact h.p.f1, fun i hi => by rw [hK.frozen (p := ⟨pq, i, none⟩) lq nq]; exact h.p.fs i hi, h.p.ne⟩
          s := h.s.keptP hK fun k g e => by rw [g] at e; cases e
          c := h.c.keptP hK fun k g e => by rw [g] at e; cases e
          own := ownsRow_keptP h.own hK fun q e => by rw [h.tv q e]; decide
          pic := fun i m W hm hW j hj => hK.old (h.pic i m W hm hW j hj) (show ¬ tag m.1 = 1 by rw [h.tm m (List.mem_of_getElem? hm)]; decide)
          tc := h.tc, tp := h.tp, tq := h.tq, tv := h.tv, tm := h.tm
          lt := fun k hk => Nat.lt_of_lt_of_le (h.lt k hk) hK.size }
end Go.Proofs.YtaihcceobnfmhaaGreatDoor

namespace Go.Proofs.YtaihcceobnfmhaaGreatDoor
open Go.RowKit Go.Deep

/-- what an act on a baker's pool leaves -/
theorem RSkAt.acted {tag : Nat → Nat} {F : Nat → Prop} {w w' : World} {sb pb : Nat} {v : Value} {L : List Wt} {S : Sk} (hF : ∀ k, F k ↔ tag k ≠ 0) (h : RSkAt tag w sb pb v L S) (b : Nat) (hb : b < 3) (hr : S.R b = true) {x q : Nat} {y : St}
    (hx : tag x = 2 + b) (hq : tag q = 2 + b) (hc : w.cell? ⟨pb, b, none⟩ = some (.pointer (some ⟨x, 0, none⟩))) (hR : RefAt w' x q y) (hK : Kept [x, q] w w') : RSk F w' sb ⟨S.R, set1 S.P b y, S.K, S.W⟩ ∧ Moved F F w w' := by
  refine ⟨⟨tag, pb, v, L, hF, h.pool b hb hr hx hq hc hR hK⟩, KeptP.of_kept hK fun k g => ?_, fun _ _ g => g⟩
  rcases List.mem_cons.1 g with e | e
  · subst e; exact (hF _).2 (by omega)
  · rw [List.mem_singleton.1 e]; exact (hF _).2 (by omega)
theorem RSk.as {F : Nat → Prop} {w w' : World} {sb : Nat} {S T : Sk} (h : RSk F w' sb S ∧ Moved F F w w') (e : T = S) : RSk F w' sb T ∧ Moved F F w w' := by subst e; exact h

theorem rs_join (F : Nat → Prop) (sb : Nat) (S : Sk) (hS : S.Ok) (o b n : Int) (w : World) (h : RSk F w sb S) :
    Calls Tryz.prog 70 #[.pointer (some ⟨sb, 0, none⟩), .int .i64 o, .int .i64 b, .int .i64 n] w fun e w' => e = .returned (.int .i64 (S.joinC o b n)) ∧ RSk F w' sb (S.join o b n) ∧ Moved F F w w' := by
  obtain ⟨tag, pb, v, L, hF, h⟩ := h
  have I := rs_is tag sb pb v L S hS b w h
  have c0 := h.c0
  cases hr : S.R b with
  | true =>
    obtain ⟨k, rfl⟩ : ∃ k : Nat, b = k := ⟨b.toNat, by have := hS.rin b hr; omega⟩
    have hk : k < 3 := by have := hS.rin _ hr; omega
    obtain ⟨x, q, hc, hR, hx, hq⟩ := h.p k hk hr
    have J := ref_join x q _ (hS.pok k) o n w hR
    have e1 : Hid (S.joinC o k n = (S.P k).joinC o n) := if_pos hr
    have e2 : Hid (S.join o k n = ⟨S.R, set1 S.P k ((S.P k).join o n), S.K, S.W⟩) := if_pos hr
    have A1 : Hid (∀ w', RefAt w' x q ((S.P k).join o n) → Kept [x, q] w w' → RSk F w' sb ⟨S.R, set1 S.P k ((S.P k).join o n), S.K, S.W⟩ ∧ Moved F F w w') := fun w' g1 g2 => h.acted hF k hk hr hx hq hc g1 g2
    rw [hr] at I
    clear hr hR h hx hq
    go_enter Tryz.func70, Tryz.ntmps70
    go_wp2_with (first | (go_at_call 123; refine I.mono ?_; rintro e w' ⟨rfl, rfl⟩) | (go_at_call 124; refine J.mono ?_; rintro e w1 ⟨rfl, hR1, hK1⟩))
    go_ret
    exact ⟨ret_int e1.out.symm, RSk.as (A1.out _ hR1 hK1) e2.out⟩
  | false =>
    rw [hr] at I
    have e1 : Hid (S.joinC o b n = 4) := if_neg (by rw [hr]; decide)
    have e2 : Hid (S.join o b n = S) := if_neg (by rw [hr]; decide)
    clear hr
    go_enter Tryz.func70, Tryz.ntmps70
    go_wp2_with (go_at_call 123; refine I.mono ?_; rintro e w' ⟨rfl, rfl⟩)
    go_ret
    exact ⟨ret_int e1.out.symm, RSk.as ⟨⟨tag, pb, v, L, hF, h⟩, Moved.refl _ _⟩ e2.out⟩

theorem rs_add (F : Nat → Prop) (sb : Nat) (S : Sk) (hS : S.Ok) (b n : Int) (w : World) (h : RSk F w sb S) :
    Calls Tryz.prog 134 #[.pointer (some ⟨sb, 0, none⟩), .int .i64 b, .int .i64 n] w fun e w' => e = .returned (.int .i64 (S.addC b n)) ∧ RSk F w' sb (S.add b n) ∧ Moved F F w w' := by
  obtain ⟨tag, pb, v, L, hF, h⟩ := h
  have I := rs_is tag sb pb v L S hS b w h
  have c0 := h.c0
  cases hr : S.R b with
  | true =>
    obtain ⟨k, rfl⟩ : ∃ k : Nat, b = k := ⟨b.toNat, by have := hS.rin b hr; omega⟩
    have hk : k < 3 := by have := hS.rin _ hr; omega
    obtain ⟨x, q, hc, hR, hx, hq⟩ := h.p k hk hr
    have J := ref_add x q _ (hS.pok k) n w hR
    have e1 : Hid (S.addC k n = (S.P k).addC n) := if_pos hr
    have e2 : Hid (S.add k n = ⟨S.R, set1 S.P k ((S.P k).add n), S.K, S.W⟩) := if_pos hr
    have A1 : Hid (∀ w', RefAt w' x q ((S.P k).add n) → Kept [x, q] w w' → RSk F w' sb ⟨S.R, set1 S.P k ((S.P k).add n), S.K, S.W⟩ ∧ Moved F F w w') := fun w' g1 g2 => h.acted hF k hk hr hx hq hc g1 g2
    rw [hr] at I
    clear hr hR h hx hq
    go_enter Tryz.func134, Tryz.ntmps134
    go_wp2_with (first | (go_at_call 123; refine I.mono ?_; rintro e w' ⟨rfl, rfl⟩) | (go_at_call 176; refine J.mono ?_; rintro e w1 ⟨rfl, hR1, hK1⟩))
    go_ret
    exact ⟨ret_int e1.out.symm, RSk.as (A1.out _ hR1 hK1) e2.out⟩
  | false =>
    rw [hr] at I
    have e1 : Hid (S.addC b n = 4) := if_neg (by rw [hr]; decide)
    have e2 : Hid (S.add b n = S) := if_neg (by rw [hr]; decide)
    clear hr
    go_enter Tryz.func134, Tryz.ntmps134
    go_wp2_with (go_at_call 123; refine I.mono ?_; rintro e w' ⟨rfl, rfl⟩)
    go_ret
    exact ⟨ret_int e1.out.symm, RSk.as ⟨⟨tag, pb, v, L, hF, h⟩, Moved.refl _ _⟩ e2.out⟩

/-- a pool of nobody's laid for a baker -/
theorem RSkAt.placed {tag : Nat → Nat} {w1 : World} {sb pb : Nat} {v : Value} {L : List Wt} {S : Sk} (h1 : RSkAt tag w1 sb pb v L S) (b : Nat) (hb : b < 3) {x q : Nat} {y : St} (htx : tag x = 0) (htq : tag q = 0) (hR : RefAt w1 x q y) :
    ∃ tag', RSkAt tag' (w1.setCell ⟨pb, b, none⟩ (.pointer (some ⟨x, 0, none⟩))) sb pb v L ⟨set1 S.R b true, set1 S.P b y, S.K, S.W⟩ ∧ ∀ k, tag' k ≠ 0 ↔ (tag k ≠ 0 ∨ k = x ∨ k = q) := by
  obtain ⟨hx, hq⟩ := hR.lt
  have hcb : ∃ u, w1.cell? ⟨pb, b, none⟩ = some u := by
    cases e : S.R b with
    | true => obtain ⟨x', q', hc, _⟩ := h1.p b hb e; exact ⟨_, hc⟩
    | false => exact ⟨_, h1.p0 b hb e⟩
  have npx : ¬ x = pb := fun e => by rw [e, h1.tp] at htx; omega
  have npq : ¬ q = pb := fun e => by rw [e, h1.tp] at htq; omega
  have hK1 : KeptP (fun k => k = pb) w1 (w1.setCell ⟨pb, b, none⟩ (.pointer (some ⟨x, 0, none⟩))) := KeptP.setCell (F := fun k => k = pb) (KeptP.refl _ _) (p := ⟨pb, b, none⟩) rfl _
  have hR2 : RefAt (w1.setCell ⟨pb, b, none⟩ (.pointer (some ⟨x, 0, none⟩))) x q y := hR.keptP hK1 npx npq
  have hs : (w1.setCell ⟨pb, b, none⟩ (.pointer (some ⟨x, 0, none⟩))).heap.size = w1.heap.size := by simp [World.setCell]
  have same : ∀ c k : Nat, tag k = c + 1 → c + 1 ≠ 2 + b → (if k = x ∨ k = q then 2 + b else if tag k = 2 + b then 1 else tag k) = c + 1 := fun c k e ne => by
    rw [if_neg (fun g => by rcases g with rfl | rfl <;> omega), if_neg (by omega), e]
  have np : ∀ c k : Nat, tag k = c + 2 → k ≠ pb := fun c k e g => by rw [g, h1.tp] at e; omega
  refine ⟨fun k => if k = x ∨ k = q then 2 + b else if tag k = 2 + b then 1 else tag k, ?_, fun k => ?_⟩
  · refine ⟨hK1.old h1.c0 h1.ne, hK1.old h1.c1 h1.ne, ?_, same 0 sb h1.ts (by omega), same 0 pb h1.tp (by omega), h1.ne, fun c hc hr => ?_, fun c hc hr => ?_, fun c hc => ?_, ownsRow_keptP h1.own hK1 (fun g e => (h1.tv g e).2.2), fun g e => ⟨same 0 g (h1.tv g e).1 (by omega), (h1.tv g e).2⟩, h1.keys, fun i t ht => ?_, fun k g => ?_⟩
    · rw [hK1.frozen (p := ⟨sb, 1, none⟩) (cell_lt h1.c1) h1.ne]; exact h1.f1
    · by_cases e : c = b
      · subst e
        obtain ⟨u, hu⟩ := hcb
        refine ⟨x, q, World.cell?_setCell_same _ _ _ hu, ?_, if_pos (.inl rfl), if_pos (.inr rfl)⟩
        show RefAt _ x q (set1 S.P c y c)
        rw [set1_same]; exact hR2
      · have hr' : S.R c = true := (set1_other S.R b true c (by omega)).symm.trans hr
        obtain ⟨x', q', hc', hR', hx', hq'⟩ := h1.p c hc hr'
        refine ⟨x', q', ?_, ?_, (same (1 + c) x' (by omega) (by omega)).trans (by omega), (same (1 + c) q' (by omega) (by omega)).trans (by omega)⟩
        · rw [World.cell?_setCell_other _ _ _ _ (by simp <;> omega)]; exact hc'
        · show RefAt _ x' q' (set1 S.P b y c)
          rw [set1_other _ _ _ _ (by omega)]
          exact hR'.keptP hK1 (np c x' (by omega)) (np c q' (by omega))
    · have e : c ≠ b := fun e => by
        subst e
        rw [show (⟨set1 S.R c true, set1 S.P c y, S.K, S.W⟩ : Sk).R c = true from set1_same ..] at hr
        cases hr
      rw [World.cell?_setCell_other _ _ _ _ (by simp <;> omega)]
      exact h1.p0 c hc ((set1_other S.R b true c (by omega)).symm.trans hr)
    · rw [World.frozen?_setCell]; exact h1.fp c hc
    · obtain ⟨q', hR', hx', hq'⟩ := h1.wat i t ht
      exact ⟨q', hR'.keptP hK1 (np (3 + i) _ (by omega)) (np (3 + i) q' (by omega)), (same (4 + i) _ (by omega) (by omega)).trans (by omega), (same (4 + i) q' (by omega) (by omega)).trans (by omega)⟩
    · rw [hs]
      by_cases e : k = x ∨ k = q
      · rcases e with rfl | rfl
        · exact hx
        · exact hq
      · have : tag k ≠ 0 := fun e2 => g ((if_neg e).trans ((if_neg (by omega)).trans e2))
        exact h1.tin k this
  · show (if k = x ∨ k = q then 2 + b else if tag k = 2 + b then 1 else tag k) ≠ 0 ↔ _
    by_cases e : k = x ∨ k = q
    · rw [if_pos e]
      exact ⟨fun _ => .inr e, fun _ => by omega⟩
    · rw [if_neg e]
      by_cases e2 : tag k = 2 + b
      · rw [if_pos e2]
        exact ⟨fun _ => .inl (by omega), fun _ => by decide⟩
      · rw [if_neg e2]
        exact ⟨.inl, fun g => g.resolve_right e⟩
theorem RSk.some {F : Nat → Prop} {w w' : World} {sb : Nat} {S T : Sk} (h : RSk F w' sb S) (hM : Moved F F w w') (e : T = S) : ∃ F', RSk F' w' sb T ∧ Moved F F' w w' := by subst e; exact ⟨F, h, hM⟩
set_option maxRecDepth 100000 in
theorem rs_register (F : Nat → Prop) (sb : Nat) (S : Sk) (hS : S.Ok) (b : Int) (w : World) (h : RSk F w sb S) :
    Calls Tryz.prog 68 #[.pointer (some ⟨sb, 0, none⟩), .int .i64 b] w fun e w' => e = .returned (.int .i64 (S.regC b)) ∧ ∃ F', RSk F' w' sb (S.reg b) ∧ Moved F F' w w' := by
  by_cases hb : Bk b
  · obtain ⟨tag, pb, v, L, hF, h⟩ := h
    have c0 := h.c0
    obtain ⟨k, rfl⟩ : ∃ k : Nat, b = k := ⟨b.toNat, by omega⟩
    have hk : k < 3 := by omega
    cases hr : S.R k with
    | true =>
      obtain ⟨x, q, hc, _⟩ := h.p k hk hr
      have e1 : Hid (S.regC k = 5) := (if_neg (not_not_intro hb)).trans (if_pos hr)
      have e2 : Hid (S.reg k = S) := if_neg (by rw [e1.out]; decide)
      clear hr hb
      go_enter Tryz.func68, Tryz.ntmps68
      go_wp2
      go_ret
      exact ⟨ret_int e1.out.symm, RSk.some ⟨tag, pb, v, L, hF, h⟩ (Moved.refl _ _) e2.out⟩
    | false =>
      have hc := h.p0 k hk hr
      have fc := h.fp k hk
      have e1 : Hid (S.regC k = 0) := (if_neg (not_not_intro hb)).trans (if_neg (by rw [hr]; decide))
      have e2 : Hid (S.reg k = ⟨set1 S.R k true, set1 S.P k ⟨0, fun _ => 0⟩, S.K, S.W⟩) := by
        show _ = (⟨set1 S.R k true, set1 S.P k e0, S.K, S.W⟩ : Sk)
        rw [set1_id S.P k _ (hS.pout k hr).symm]
        exact if_pos e1.out
      have ne := h.ne
      have lp : Hid (pb < w.heap.size) := h.tin pb (by rw [h.tp]; decide)
      have ls : Hid (sb < w.heap.size) := h.tin sb (by rw [h.ts]; decide)
      clear hr hb
      go_enter Tryz.func68, Tryz.ntmps68
      go_wp2_with fail
      go_region_held3 (fun w' => w'.cell? ⟨sb, 0, none⟩ = some (.slice (some ⟨pb, 0, none⟩) 3 3)) (first | assumption | exact d2 _)
        ((go_at_call 122; refine (ref_new _).mono ?_; rintro e w1 ⟨x, q, rfl, gx, gq, lx, lq, hR, hB⟩; have c1 : w1.cell? ⟨sb, 0, none⟩ = some (.slice (some ⟨pb, 0, none⟩) 3 3) := (by rw [hB.cell (p := ⟨sb, 0, none⟩) ls.out]; exact c0); have d1 : w1.cell? ⟨pb, k, none⟩ = some (.pointer none) := (by rw [hB.cell (p := ⟨pb, k, none⟩) lp.out]; exact hc); have f1 : w1.frozen? ⟨pb, k, none⟩ = false := (by rw [hB.frozen (p := ⟨pb, k, none⟩) lp.out]; exact fc); have d2 : ∀ u, (w1.setCell ⟨pb, k, none⟩ u).cell? ⟨sb, 0, none⟩ = some (.slice (some ⟨pb, 0, none⟩) 3 3) := (fun u => by rw [World.cell?_setCell_other _ _ _ _ (by simp)]; exact c1)))
      go_wp2_with fail
      go_ret
      refine ⟨ret_int e1.out.symm, ?_⟩
      rw [e2.out]
      have hB' : Below w.heap.size w w1 := ⟨hB.os, hB.tape, hB.output, hB.size, hB.block⟩
      have gx' : w.heap.size ≤ x := gx
      have gq' : w.heap.size ≤ q := gq
      have h1 := h.keptP (F := fun _ => False) (KeptP.of_below hB') (fun _ g => g.elim)
      obtain ⟨tag', h2, ht⟩ := h1.placed k hk (Classical.byContradiction fun g => by have := h.tin x g; omega) (Classical.byContradiction fun g => by have := h.tin q g; omega) hR
      refine ⟨fun i => tag' i ≠ 0, ⟨tag', pb, v, L, fun _ => Iff.rfl, h2⟩, ?_, fun i hi g => ?_⟩
      · exact KeptP.setCell (F := F) (KeptP.of_below hB') (p := ⟨pb, k, none⟩) ((hF pb).2 (by rw [h.tp]; decide)) _
      · rcases (ht i).1 g with e | e | e
        · exact (hF i).2 e
        · omega
        · omega
  · have e1 : Hid (S.regC b = 2) := if_pos hb
    have e2 : Hid (S.reg b = S) := if_neg (by rw [e1.out]; decide)
    by_cases h0 : 0 ≤ b
    · have h3 : ¬ b < 3 := by omega
      clear hb
      go_enter Tryz.func68, Tryz.ntmps68
      go_wp2
      go_ret
      exact ⟨ret_int e1.out.symm, RSk.some h (Moved.refl _ _) e2.out⟩
    · clear hb
      go_enter Tryz.func68, Tryz.ntmps68
      go_wp2
      go_ret
      exact ⟨ret_int e1.out.symm, RSk.some h (Moved.refl _ _) e2.out⟩
theorem Tryz.infoPool : (Tryz.prog.info? 125).map (fun i => (i.zero, i.size, i.bytes)) = some (some (.pointer none), 1, 8) := by kernel_rfl
abbrev three : Array Value := #[.pointer none, .pointer none, .pointer none]
theorem made_three : madeCells #[.pointer none] 3 = three := by kernel_rfl
theorem make_three (w : World) : (Instr.makeSlice 119 (.int .i64 3) (.int .i64 3)).run Tryz.prog w = .ok (.slice (some ⟨w.heap.size, 0, none⟩) 3 3) (w.alloc (.cells three 125)) := by
  have h := run_make_row' (P := Tryz.prog) 119 125 (.pointer none) 8 Tryz.underlying119 Tryz.infoPool rfl .i64 .i64 3 (by omega) (by omega) w
  rw [made_three] at h
  exact h
theorem three_at (i : Nat) (h : i < 3) : three[i]? = some (.pointer none) := by
  have : i = 0 ∨ i = 1 ∨ i = 2 := by omega
  rcases this with rfl | rfl | rfl <;> rfl
theorem rs_fresh (w : World) (t u : TypeId) : RSk (fun k => k = w.heap.size + 1 ∨ k = w.heap.size) ((w.alloc (.cells three t)).alloc (.cells #[.slice (some ⟨w.heap.size, 0, none⟩) 3 3, .slice none 0 0] u)) (w.heap.size + 1) Sk.none := by
  refine ⟨fun k => if k = w.heap.size + 1 ∨ k = w.heap.size then 1 else 0, w.heap.size, .slice none 0 0, [], fun k => ?_, ?_⟩
  · show _ ↔ (if _ then 1 else 0) ≠ 0
    split <;> simp_all
  · refine ⟨cell_new _ _ _ _ _ _ (by simp) rfl, cell_new _ _ _ _ _ _ (by simp) rfl, World.frozen?_alloc_at _ _ _ _ (by simp), if_pos (.inl rfl), if_pos (.inr rfl), by omega, fun b _ hr => (by cases hr), fun b hb _ => ?_, fun b _ => ?_, World.ownsRow_nil _ _ _ _, fun g e => (by cases e), rfl, fun i t ht => (by simp at ht), fun k hk => ?_⟩
    · rw [World.cell?_alloc_lt _ _ _ (by simp)]
      exact cell_new _ _ _ _ _ _ rfl (three_at b hb)
    · rw [World.frozen?_alloc_past _ _ _ (by simp)]
      exact World.frozen?_alloc_at _ _ _ _ rfl
    · by_cases e : k = w.heap.size + 1 ∨ k = w.heap.size
      · simp; omega
      · exact absurd (if_neg e) hk
set_option maxRecDepth 100000 in
theorem rs_new (w : World) :
    Calls Tryz.prog 66 #[] w fun e w' => ∃ sb F, e = .returned (.pointer (some ⟨sb, 0, none⟩)) ∧ RSk F w' sb Sk.none ∧ (∀ k, F k → w.heap.size ≤ k) ∧ w.heap.size ≤ sb ∧ Below w.heap.size w w' := by
  have hm := make_three
  go_enter Tryz.func66, Tryz.ntmps66
  go_wp2
  go_ret
  exact ⟨w.heap.size + 1, _, rfl, rs_fresh w _ _, fun k hk => by omega, by omega, ((Below.refl _ _).alloc (Nat.le_refl _) _).alloc (by simp) _⟩
end Go.Proofs.YtaihcceobnfmhaaGreatDoor

namespace Go.Proofs.YtaihcceobnfmhaaGreatDoor
open Go.RowKit

set_option maxRecDepth 100000 in
theorem rs_waits (tag : Nat → Nat) (sb pb : Nat) (v : Value) (L : List Wt) (S : Sk) (hS : S.Ok) (o b c : Int) (hL : L.length ≤ 1000) (w : World) (h : RSkAt tag w sb pb v L S) :
    Calls Tryz.prog 83 #[.pointer (some ⟨sb, 0, none⟩), .int .i64 o, .int .i64 b, .int .i64 c] w fun e w' => e = .returned (.int .i64 ((S.W b c).val o)) ∧ ∃ n, w' = w.drewN n := by
  have I := rs_find tag sb pb v L S b c hL w h
  have c1 := h.c1
  go_enter Tryz.func83, Tryz.ntmps83
  go_wp2_with fail
  refine I.mono ?_
  rintro e w' ⟨⟨i, rfl, hf⟩, rfl⟩
  rcases hf with ⟨rfl, hn⟩ | ⟨j, t, rfl, ht, rfl, rfl⟩
  · have e0' : Hid ((S.W b c).val o = 0) := by rw [hS.wout b c (by rw [h.keys]; exact hn)]; exact e0_val o
    clear hn I
    go_wp2_with fail
    go_ret
    exact ⟨ret_int e0'.out.symm, 0, rfl⟩
  · have hj := (List.getElem?_eq_some_iff.1 ht).1
    obtain ⟨g, cap, rfl, hc, _⟩ := h.row (by omega)
    obtain ⟨_, _, d2⟩ := hc j t ht
    obtain ⟨q, hR, _⟩ := h.wat j t ht
    have V := ref_value t.2.2 q _ (hS.wok t.1 t.2.1) o _ hR
    clear hR hc ht I h
    go_wp2_with (go_at_call 139; refine V.mono ?_; rintro e w' ⟨rfl, m, rfl⟩)
    go_ret
    exact ⟨rfl, _, rfl⟩

/-- the first so many bakers' -/
def preP (S : Sk) : Nat → Int
  | 0 => 0
  | k + 1 => preP S k + (S.P k).T
theorem preP_bd {S : Sk} (h : S.Ok) : ∀ k, 0 ≤ preP S k ∧ preP S k ≤ k * 1125899906842624
  | 0 => by simp [preP]
  | k + 1 => by
    have := preP_bd h k
    have := (h.pok k).t0
    have := (h.pok k).t1
    simp only [preP]
    omega
theorem preP_three (S : Sk) : preP S 3 = (S.P 0).T + (S.P 1).T + (S.P 2).T := by simp [preP]
/-- the first so many of what waits -/
def preW (S : Sk) (f : Int → Int → Int) (k : Nat) : Int := sumK (S.K.take k) f
theorem preW_zero (S : Sk) (f : Int → Int → Int) : preW S f 0 = 0 := rfl
theorem preW_succ (S : Sk) (f : Int → Int → Int) (k : Nat) (t : Int × Int) (h : S.K[k]? = some t) : preW S f (k + 1) = preW S f k + f t.1 t.2 := by
  unfold preW
  obtain ⟨hl, e⟩ := List.getElem?_eq_some_iff.1 h
  rw [List.take_succ_eq_append_getElem hl, sumK_append, e]
  show _ + (f t.1 t.2 + 0) = _
  omega
theorem preW_all (S : Sk) (f : Int → Int → Int) : preW S f S.K.length = sumK S.K f := by unfold preW; rw [List.take_length]
theorem preW_bd (S : Sk) (f : Int → Int → Int) (M : Int) (h0 : ∀ b c, 0 ≤ f b c) (h1 : ∀ b c, f b c ≤ M) (hM : 0 ≤ M) (k : Nat) : 0 ≤ preW S f k ∧ preW S f k ≤ S.K.length * M := by
  refine ⟨sumK_nonneg _ fun t _ => h0 _ _, Int.le_trans (sumK_le _ fun t _ => h1 _ _) ?_⟩
  refine Int.mul_le_mul_of_nonneg_right ?_ hM
  have := List.length_take_le k S.K
  have : (S.K.take k).length ≤ S.K.length := List.length_take_le' k S.K
  omega
theorem RSkAt.klen {tag : Nat → Nat} {w : World} {sb pb : Nat} {v : Value} {L : List Wt} {S : Sk} (h : RSkAt tag w sb pb v L S) : S.K.length = L.length := by rw [h.keys, List.length_map]
theorem RSkAt.key {tag : Nat → Nat} {w : World} {sb pb : Nat} {v : Value} {L : List Wt} {S : Sk} (h : RSkAt tag w sb pb v L S) {i : Nat} {t : Wt} (ht : L[i]? = some t) : S.K[i]? = some (t.1, t.2.1) := by
  rw [h.keys, List.getElem?_map, ht]; rfl

set_option maxRecDepth 100000 in
set_option maxHeartbeats 1000000 in
theorem rs_total (tag : Nat → Nat) (sb pb : Nat) (v : Value) (L : List Wt) (S : Sk) (hS : S.Ok) (hL : L.length ≤ 1000) (w : World) (h : RSkAt tag w sb pb v L S) :
    Calls Tryz.prog 37 #[.pointer (some ⟨sb, 0, none⟩)] w fun e w' => e = .returned (.int .i64 S.total) ∧ w' = w := by
  have c1 := h.c1
  obtain ⟨a, cap, rfl⟩ := h.shape
  go_enter Tryz.func37, Tryz.ntmps37
  go_wp2
  go_loopw [3, 4] (fun n i wr => ∃ k : Nat, k ≤ 3 ∧ n = .int .i64 (preP S k) ∧ i = .int .i64 k ∧ wr = w) (fun _ i _ => 3 - (intOf i).toNat)
  case atStart => exact ⟨0, Nat.zero_le _, rfl, rfl, rfl⟩
  case round =>
    obtain ⟨k, hk, rfl, rfl, rfl⟩ := hrel
    by_cases hlt : k < 3
    · have I := rs_staked tag sb pb _ L S hS k _ h
      have p0 := preP_bd hS k
      have t0 := (hS.pok k).t0
      have t1 := (hS.pok k).t1
      have E : Hid (preP S (k + 1) = preP S k + (S.P k).T) := rfl
      generalize (S.P k).T = T at *
      generalize preP S k = p at *
      have p1 : 0 ≤ p := p0.1
      have p2 : p ≤ 3 * 1125899906842624 := by omega
      clear p0
      go_wp2_with (go_at_call 86; refine I.mono ?_; rintro e w' ⟨rfl, rfl⟩)
      go_roundw
      case rel => exact ⟨k + 1, by omega, by rw [E.out], by go_num, trivial⟩
      case measure => simp [intOf]; omega
    · obtain rfl : k = 3 := by omega
      clear hlt
      go_wp2
      go_loopw [3, 5] (fun n i wz => ∃ k : Nat, k ≤ L.length ∧ n = .int .i64 (preP S 3 + preW S (fun b c => (S.W b c).T) k) ∧ i = .int .i64 k ∧ wz = wr) (fun _ i _ => L.length - (intOf i).toNat)
      case atStart => exact ⟨0, Nat.zero_le _, by rw [preW_zero, Int.add_zero], rfl, rfl⟩
      case round =>
        obtain ⟨k, hk, rfl, rfl, rfl⟩ := hrel
        by_cases hlt : k < L.length
        · obtain ⟨g, cap', e, hc, _⟩ := h.row (by omega)
          obtain ⟨rfl, rfl⟩ : a = some ⟨g, 0, none⟩ ∧ cap = cap' := by cases e; exact ⟨rfl, rfl⟩
          obtain ⟨t, ht⟩ : ∃ t, L[k]? = some t := ⟨L[k], List.getElem?_eq_getElem hlt⟩
          obtain ⟨_, _, d2⟩ := hc k t ht
          obtain ⟨q, hR, _⟩ := h.wat k t ht
          have d3 := hR.c0
          have p0 := preP_bd hS 3
          have q0 := preW_bd S (fun b c => (S.W b c).T) 1125899906842624 (fun b c => (hS.wok b c).t0) (fun b c => (hS.wok b c).t1) (by decide) k
          have t0 := (hS.wok t.1 t.2.1).t0
          have t1 := (hS.wok t.1 t.2.1).t1
          have E : Hid (preP S 3 + preW S (fun b c => (S.W b c).T) (k + 1) = preP S 3 + preW S (fun b c => (S.W b c).T) k + (S.W t.1 t.2.1).T) := by
            have : preW S (fun b c => (S.W b c).T) (k + 1) = preW S (fun b c => (S.W b c).T) k + (S.W t.1 t.2.1).T := preW_succ S (fun b c => (S.W b c).T) k _ (h.key ht)
            show _ = _
            rw [this]; omega
          rw [h.klen] at q0
          obtain ⟨p1, p2⟩ : 0 ≤ preP S 3 + preW S (fun b c => (S.W b c).T) k ∧ preP S 3 + preW S (fun b c => (S.W b c).T) k ≤ 1003 * 1125899906842624 := by
            have : (L.length : Int) * 1125899906842624 ≤ 1000 * 1125899906842624 := Int.mul_le_mul_of_nonneg_right (by omega) (by decide)
            omega
          clear p0 q0 hR hc ht h e
          generalize (S.W t.1 t.2.1).T = T at *
          generalize preP S 3 + preW S (fun b c => (S.W b c).T) k = p at *
          go_wp2
          go_roundw
          case rel => exact ⟨k + 1, by omega, by rw [E.out], by go_num, trivial⟩
          case measure => simp [intOf]; omega
        · obtain rfl : k = L.length := by omega
          have E : Hid (preP S 3 + preW S (fun b c => (S.W b c).T) L.length = S.total) := by
            show _ = _
            unfold Sk.total
            rw [preP_three, ← h.klen, preW_all]
          clear h
          go_wp2
          go_ret
          exact ⟨ret_int E.out, rfl⟩
end Go.Proofs.YtaihcceobnfmhaaGreatDoor
