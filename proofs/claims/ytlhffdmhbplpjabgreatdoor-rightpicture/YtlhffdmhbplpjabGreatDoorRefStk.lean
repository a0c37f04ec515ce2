/-
  The document's stakes (bakehouseref2.Stakes) as they lie in memory.
-/
import Derived.Test.YtlhffdmhbplpjabGreatDoorProgStkX
import Derived.Test.YtlhffdmhbplpjabGreatDoorStakeMathX
import Derived.Test.YtlhffdmhbplpjabGreatDoorRefNew
import Derived.Test.YtlhffdmhbplpjabGreatDoorRefJoin
namespace Go.Proofs.YtlhffdmhbplpjabGreatDoor
open Go.RowKit

/-- what waits, by baker, cycle and the block of its pool: as it lies -/
abbrev Wt : Type := Int × Int × Nat
def Wt.key (t : Wt) : Int × Int := (t.1, t.2.1)
def wrow (L : List Wt) : List Value := match L with
  | [] => []
  | t :: l => .int .i64 t.1 :: .int .i64 t.2.1 :: .pointer (some ⟨t.2.2, 0, none⟩) :: wrow l
theorem wrow_len : ∀ L : List Wt, (wrow L).length = L.length * 3
  | [] => rfl
  | _ :: l => by simp [wrow, wrow_len l]; omega
theorem wrow_append (t : Wt) : ∀ L : List Wt, wrow (L ++ [t]) = wrow L ++ [.int .i64 t.1, .int .i64 t.2.1, .pointer (some ⟨t.2.2, 0, none⟩)]
  | [] => rfl
  | _ :: l => by simp [wrow, wrow_append t l]
theorem wrow_at : ∀ (L : List Wt) (i : Nat) (t : Wt), L[i]? = some t → (wrow L)[i * 3]? = some (.int .i64 t.1) ∧ (wrow L)[i * 3 + 1]? = some (.int .i64 t.2.1) ∧ (wrow L)[i * 3 + 2]? = some (.pointer (some ⟨t.2.2, 0, none⟩))
  | [], _, _, h => by simp at h
  | u :: l, 0, t, h => by
    have e : u = t := by simpa using h
    subst e
    exact ⟨rfl, rfl, rfl⟩
  | u :: l, i + 1, t, h => by
    have := wrow_at l i t (by simpa using h)
    rw [show (i + 1) * 3 = i * 3 + 3 by omega]
    exact this
theorem wrow_set (t : Wt) : ∀ (L : List Wt) (i : Nat), i < L.length → (((wrow L).set (i * 3) (.int .i64 t.1)).set (i * 3 + 1) (.int .i64 t.2.1)).set (i * 3 + 2) (.pointer (some ⟨t.2.2, 0, none⟩)) = wrow (L.set i t)
  | [], i, h => by simp at h
  | u :: l, 0, _ => rfl
  | u :: l, i + 1, h => by
    have := wrow_set t l i (by simpa using h)
    rw [show (i + 1) * 3 = i * 3 + 3 by omega]
    show _ = _ :: _ :: _ :: wrow (l.set i t)
    rw [← this]
    rfl

/-- the document's stakes, their parts told by tags: 0 another's, 1 its own lists, 2 to 4 bakers' pools, 5 on what waits -/
structure RSkAt (tag : Nat → Nat) (w : World) (sb pb : Nat) (v : Value) (L : List Wt) (S : Sk) : Prop where
  c0 : w.cell? ⟨sb, 0, none⟩ = some (.slice (some ⟨pb, 0, none⟩) 3 3)
  c1 : w.cell? ⟨sb, 1, none⟩ = some v
  f1 : w.frozen? ⟨sb, 1, none⟩ = false
  ts : tag sb = 1
  tp : tag pb = 1
  ne : sb ≠ pb
  p : ∀ b : Nat, b < 3 → S.R b = true → ∃ x q, w.cell? ⟨pb, b, none⟩ = some (.pointer (some ⟨x, 0, none⟩)) ∧ RefAt w x q (S.P b) ∧ tag x = 2 + b ∧ tag q = 2 + b
  p0 : ∀ b : Nat, b < 3 → S.R b = false → w.cell? ⟨pb, b, none⟩ = some (.pointer none)
  fp : ∀ b : Nat, b < 3 → w.frozen? ⟨pb, b, none⟩ = false
  own : w.ownsRow 0 73 3 v L.length (wrow L)
  tv : ∀ g, v.ownBlock = some g → tag g = 1 ∧ g ≠ sb ∧ g ≠ pb
  keys : S.K = L.map Wt.key
  wat : ∀ i t, L[i]? = some t → ∃ q, RefAt w t.2.2 q (S.W t.1 t.2.1) ∧ tag t.2.2 = 5 + i ∧ tag q = 5 + i
  tin : ∀ k, tag k ≠ 0 → k < w.heap.size
/-- the document's stakes, and what blocks are theirs -/
def RSk (F : Nat → Prop) (w : World) (sb : Nat) (S : Sk) : Prop := ∃ tag pb v L, (∀ k, F k ↔ tag k ≠ 0) ∧ RSkAt tag w sb pb v L S

theorem RefAt.keptP {w w' : World} {b q : Nat} {x : St} {F : Nat → Prop} (h : RefAt w b q x) (hK : KeptP F w w') (hb : ¬ F b) (hq : ¬ F q) : RefAt w' b q x where
  c0 := hK.old h.c0 hb
  c1 := h.c1.imp fun _ g => hK.old g hb
  s := fun i hi => hK.old (h.s i hi) hq
  f0 := by rw [hK.frozen (cell_lt h.c0) hb]; exact h.f0
  fs := fun i hi => by rw [hK.frozen (cell_lt (h.s i hi)) hq]; exact h.fs i hi
  ne := h.ne
/-- what turns where another one's part or none of its own lies leaves it -/
theorem RSkAt.keptP {tag : Nat → Nat} {w w' : World} {sb pb : Nat} {v : Value} {L : List Wt} {S : Sk} {F : Nat → Prop} (h : RSkAt tag w sb pb v L S) (hK : KeptP F w w') (hF : ∀ k, F k → tag k = 0) : RSkAt tag w' sb pb v L S := by
  have no : ∀ k, tag k ≠ 0 → ¬ F k := fun k hk g => hk (hF k g)
  have ns := no sb (by rw [h.ts]; decide)
  have np := no pb (by rw [h.tp]; decide)
  have nz : ∀ n k : Nat, tag k = n + 1 → ¬ F k := fun n k e => no k (by rw [e]; exact Nat.succ_ne_zero n)
  refine ⟨hK.old h.c0 ns, hK.old h.c1 ns, ?_, h.ts, h.tp, h.ne, fun b hb hr => ?_, fun b hb hr => hK.old (h.p0 b hb hr) np, fun b hb => ?_, ownsRow_keptP h.own hK (fun g e => nz 0 g (h.tv g e).1), h.tv, h.keys, fun i t ht => ?_, fun k hk => Nat.lt_of_lt_of_le (h.tin k hk) hK.size⟩
  · rw [hK.frozen (p := ⟨sb, 1, none⟩) (cell_lt h.c1) ns]; exact h.f1
  · obtain ⟨x, q, hc, hR, hx, hq⟩ := h.p b hb hr
    exact ⟨x, q, hK.old hc np, hR.keptP hK (nz (1 + b) x (by omega)) (nz (1 + b) q (by omega)), hx, hq⟩
  · have : (⟨pb, b, none⟩ : Addr).block < w.heap.size := h.tin pb (by rw [h.tp]; decide)
    rw [hK.frozen this np]; exact h.fp b hb
  · obtain ⟨q, hR, hx, hq⟩ := h.wat i t ht
    exact ⟨q, hR.keptP hK (nz (4 + i) _ (by omega)) (nz (4 + i) q (by omega)), hx, hq⟩
theorem RSkAt.drewN {tag : Nat → Nat} {w : World} {sb pb : Nat} {v : Value} {L : List Wt} {S : Sk} (h : RSkAt tag w sb pb v L S) (n : Nat) : RSkAt tag (w.drewN n) sb pb v L S := h.keptP (F := fun _ => False) ((KeptP.refl _ _).drewN n) (fun _ g => g.elim)
theorem RSk.keptP {F G : Nat → Prop} {w w' : World} {sb : Nat} {S : Sk} (h : RSk F w sb S) (hK : KeptP G w w') (hF : ∀ k, G k → ¬ F k) : RSk F w' sb S := by
  obtain ⟨tag, pb, v, L, hf, h⟩ := h
  exact ⟨tag, pb, v, L, hf, h.keptP hK fun k g => Classical.byContradiction fun e => hF k g ((hf k).2 e)⟩
theorem RSk.lt {F : Nat → Prop} {w : World} {sb : Nat} {S : Sk} (h : RSk F w sb S) (k : Nat) (hk : F k) : k < w.heap.size := by
  obtain ⟨tag, pb, v, L, hf, h⟩ := h
  exact h.tin k ((hf k).1 hk)
theorem RSk.drewN {F : Nat → Prop} {w : World} {sb : Nat} {S : Sk} (h : RSk F w sb S) (n : Nat) : RSk F (w.drewN n) sb S := by
  obtain ⟨tag, pb, v, L, hf, h⟩ := h
  exact ⟨tag, pb, v, L, hf, h.drewN n⟩

/-- a baker's pool turned -/
theorem RSkAt.pool {tag : Nat → Nat} {w w' : World} {sb pb : Nat} {v : Value} {L : List Wt} {S : Sk} (h : RSkAt tag w sb pb v L S) (b : Nat) (hb : b < 3) (hr : S.R b = true) {x q : Nat} {y : St}
    (hx : tag x = 2 + b) (hq : tag q = 2 + b) (hc : w.cell? ⟨pb, b, none⟩ = some (.pointer (some ⟨x, 0, none⟩))) (hR : RefAt w' x q y) (hK : Kept [x, q] w w') : RSkAt tag w' sb pb v L ⟨S.R, set1 S.P b y, S.K, S.W⟩ := by
  have nx : ∀ k, tag k ≠ 2 + b → k ∉ [x, q] := fun k hk g => by
    rcases List.mem_cons.1 g with e | e
    · exact hk (e ▸ hx)
    · exact hk (by rw [List.mem_singleton.1 e]; exact hq)
  have hP : KeptP (fun k => tag k = 2 + b) w w' := KeptP.of_kept hK fun k g => Classical.byContradiction fun e => nx k e g
  have ns : ¬ tag sb = 2 + b := by rw [h.ts]; omega
  have np : ¬ tag pb = 2 + b := by rw [h.tp]; omega
  refine ⟨hP.old h.c0 ns, hP.old h.c1 ns, ?_, h.ts, h.tp, h.ne, fun c hcc hrc => ?_, fun c hcc hrc => hP.old (h.p0 c hcc hrc) np, fun c hcc => ?_, ownsRow_keptP h.own hP (fun g e g2 => by rw [(h.tv g e).1] at g2; omega), h.tv, h.keys, fun i t ht => ?_, fun k hk => Nat.lt_of_lt_of_le (h.tin k hk) hP.size⟩
  · rw [hP.frozen (p := ⟨sb, 1, none⟩) (cell_lt h.c1) ns]; exact h.f1
  · by_cases e : c = b
    · subst e
      refine ⟨x, q, hP.old hc np, ?_, hx, hq⟩
      show RefAt w' x q (set1 S.P c y c)
      rw [set1_same]; exact hR
    · obtain ⟨x', q', hc', hR', hx', hq'⟩ := h.p c hcc hrc
      refine ⟨x', q', hP.old hc' np, ?_, hx', hq'⟩
      show RefAt w' x' q' (set1 S.P b y c)
      rw [set1_other _ _ _ _ (by omega)]
      exact hR'.keptP hP (by omega) (by omega)
  · have : (⟨pb, c, none⟩ : Addr).block < w.heap.size := h.tin pb (by rw [h.tp]; decide)
    rw [hP.frozen this np]; exact h.fp c hcc
  · obtain ⟨q', hR', hx', hq'⟩ := h.wat i t ht
    exact ⟨q', hR'.keptP hP (by omega) (by omega), hx', hq'⟩
/-- what waits turned, at one place -/
theorem RSkAt.wait {tag : Nat → Nat} {w w' : World} {sb pb : Nat} {v : Value} {L : List Wt} {S : Sk} (h : RSkAt tag w sb pb v L S) (hn : S.K.Nodup) (i : Nat) (t : Wt) (ht : L[i]? = some t) {q : Nat} {y : St}
    (hx : tag t.2.2 = 5 + i) (hq : tag q = 5 + i) (hR : RefAt w' t.2.2 q y) (hK : Kept [t.2.2, q] w w') : RSkAt tag w' sb pb v L ⟨S.R, S.P, S.K, set2 S.W t.1 t.2.1 y⟩ := by
  have nx : ∀ k, tag k ≠ 5 + i → k ∉ [t.2.2, q] := fun k hk g => by
    rcases List.mem_cons.1 g with e | e
    · exact hk (e ▸ hx)
    · exact hk (by rw [List.mem_singleton.1 e]; exact hq)
  have hP : KeptP (fun k => tag k = 5 + i) w w' := KeptP.of_kept hK fun k g => Classical.byContradiction fun e => nx k e g
  have ns : ¬ tag sb = 5 + i := by rw [h.ts]; omega
  have np : ¬ tag pb = 5 + i := by rw [h.tp]; omega
  refine ⟨hP.old h.c0 ns, hP.old h.c1 ns, ?_, h.ts, h.tp, h.ne, fun c hcc hrc => ?_, fun c hcc hrc => hP.old (h.p0 c hcc hrc) np, fun c hcc => ?_, ownsRow_keptP h.own hP (fun g e g2 => by rw [(h.tv g e).1] at g2; omega), h.tv, h.keys, fun j u hu => ?_, fun k hk => Nat.lt_of_lt_of_le (h.tin k hk) hP.size⟩
  · rw [hP.frozen (p := ⟨sb, 1, none⟩) (cell_lt h.c1) ns]; exact h.f1
  · obtain ⟨x', q', hc', hR', hx', hq'⟩ := h.p c hcc hrc
    exact ⟨x', q', hP.old hc' np, hR'.keptP hP (by omega) (by omega), hx', hq'⟩
  · have : (⟨pb, c, none⟩ : Addr).block < w.heap.size := h.tin pb (by rw [h.tp]; decide)
    rw [hP.frozen this np]; exact h.fp c hcc
  · obtain ⟨q', hR', hx', hq'⟩ := h.wat j u hu
    by_cases e : j = i
    · subst e
      obtain rfl : u = t := Option.some.inj (hu.symm.trans ht)
      refine ⟨q, ?_, hx, hq⟩
      show RefAt w' u.2.2 q (set2 S.W u.1 u.2.1 y u.1 u.2.1)
      rw [set2_same]; exact hR
    · have ne : (u.1, u.2.1) ≠ (t.1, t.2.1) := fun g => e (by
        have hl : j < (L.map Wt.key).length := by rw [List.length_map]; exact (List.getElem?_eq_some_iff.1 hu).1
        rw [h.keys] at hn
        refine (List.getElem?_inj hl hn).1 ?_
        rw [List.getElem?_map, List.getElem?_map, hu, ht]
        exact congrArg some g)
      refine ⟨q', ?_, hx', hq'⟩
      show RefAt w' u.2.2 q' (set2 S.W t.1 t.2.1 y u.1 u.2.1)
      rw [set2_other _ _ _ _ _ _ ne]
      exact hR'.keptP hP (by omega) (by omega)
end Go.Proofs.YtlhffdmhbplpjabGreatDoor
