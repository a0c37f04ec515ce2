/-
  The document's pool (bakehouseref1.Pool) by its contracts: a copy.
  The document's stakes (bakehouseref2.Stakes) by their contracts: who leaves waits.
-/
import Derived.Test.YtaihcceobnfmhaaGreatDoorRefNewX
import Derived.Test.YtaihcceobnfmhaaGreatDoorIntsOwn
import Derived.Test.YtaihcceobnfmhaaGreatDoorProgPurseX
import Derived.Deep.RegionLaw
import Derived.Test.YtaihcceobnfmhaaGreatDoorRefStkSumsX
import Derived.Deep.AppendLies
namespace Go.Proofs.YtaihcceobnfmhaaGreatDoor
open Go.RowKit

/-- a copy of a pool, and the row of its shares -/
theorem ref_copied (w w2 : World) (x n : Nat) (y : St) (c : Nat) (t : TypeId) (hn : n = w2.heap.size) (hx : x < w2.heap.size) (h0 : w2.cell? ⟨x, 0, none⟩ = some (.int .i64 y.T)) (h1 : ∃ u, w2.cell? ⟨x, 1, none⟩ = some u) (f0 : w2.frozen? ⟨x, 0, none⟩ = false) :
    RefAt ((w2.setCell ⟨x, 1, none⟩ (.slice (some ⟨n, 0, none⟩) 6 c)).alloc (.cells (copyCellsI w 6 (fun i => y.s i)) t)) x n y where
  c0 := by
    rw [World.cell?_alloc_lt _ _ _ (by simp [World.setCell]; exact hx), World.cell?_setCell_other _ _ _ _ (by simp)]
    exact h0
  c1 := by
    obtain ⟨u, hu⟩ := h1
    exact ⟨c, (World.cell?_alloc_lt _ _ ⟨x, 1, none⟩ (by simp [World.setCell]; exact hx)).trans (World.cell?_setCell_same _ _ _ hu)⟩
  s := fun i hi => cell_new _ _ _ _ _ _ (by simp [World.setCell]; exact hn) (copyCells_ints w 6 _ i hi)
  f0 := by
    rw [World.frozen?_alloc_past _ _ _ (by simp [World.setCell]; exact hx), World.frozen?_setCell]
    exact f0
  fs := fun i _ => World.frozen?_alloc_at _ _ _ _ (by simp [World.setCell]; exact hn)
  ne := by omega
set_option maxRecDepth 100000 in
set_option maxHeartbeats 1000000 in
theorem ref_copy (b q : Nat) (x : St) (w : World) (h : RefAt w b q x) :
    Calls Tryz.prog 126 #[.pointer (some ⟨b, 0, none⟩)] w fun e w' => ∃ b' q', e = .returned (.pointer (some ⟨b', 0, none⟩)) ∧ w.heap.size ≤ b' ∧ w.heap.size ≤ q' ∧ b' < w'.heap.size ∧ q' < w'.heap.size ∧ RefAt w' b' q' x ∧ Below w.heap.size w w' := by
  have c0 := h.c0
  obtain ⟨cap, c1⟩ := h.c1
  have lb := h.lt
  have hI : Ints w q 0 6 (fun i => x.s i) := fun i hi => by rw [Nat.zero_add]; exact h.s i hi
  go_enter Tryz.func126, Tryz.ntmps126
  go_wp2_with fail
  have s0 : (w.alloc (.cells #[.int .i64 x.T, .slice none 0 0] 124)).cell? ⟨w.heap.size, 0, none⟩ = some (.int .i64 x.T) := by simp
  have s1 : (w.alloc (.cells #[.int .i64 x.T, .slice none 0 0] 124)).cell? ⟨w.heap.size, 1, none⟩ = some (.slice none 0 0) := by simp
  have d1 : (w.alloc (.cells #[.int .i64 x.T, .slice none 0 0] 124)).cell? ⟨b, 1, none⟩ = some (.slice (some ⟨q, 0, none⟩) 6 cap) := by rw [World.cell?_alloc_lt _ _ ⟨b, 1, none⟩ lb.1]; exact c1
  have hI' : Ints (w.alloc (.cells #[.int .i64 x.T, .slice none 0 0] 124)) q 0 6 (fun i => x.s i) := hI.below ((Below.refl _ _).alloc (Nat.le_refl _) _) lb.2
  have f0 : (w.alloc (.cells #[.int .i64 x.T, .slice none 0 0] 124)).frozen? ⟨w.heap.size, 0, none⟩ = false := World.frozen?_alloc_at _ _ _ _ rfl
  have f1 : (w.alloc (.cells #[.int .i64 x.T, .slice none 0 0] 124)).frozen? ⟨w.heap.size, 1, none⟩ = false := World.frozen?_alloc_at _ _ _ _ rfl
  have hB1 : Below w.heap.size w (w.alloc (.cells #[.int .i64 x.T, .slice none 0 0] 124)) := (Below.refl _ _).alloc (Nat.le_refl _) _
  have l1 : w.heap.size < (w.alloc (.cells #[.int .i64 x.T, .slice none 0 0] 124)).heap.size := by simp
  have nb : b ≠ w.heap.size := by omega
  clear c0 c1 hI
  have HS : Hid (w.heap.size ≤ w.heap.size) := Nat.le_refl _
  generalize hz : w.heap.size = z at s0 s1 d1 f0 f1 l1 nb ⊢
  generalize w.alloc (.cells #[.int .i64 x.T, .slice none 0 0] 124) = w1 at *
  go_region_law ((refine step_append_by rfl (.tmp 14) (.tmp 18) 31 rfl (.slice none 0 0) (.slice (some ⟨q, 0, none⟩) 6 cap) (by simp [Act.eval]) (by simp [Act.eval]) _ _ (append_run_ints _ q 0 6 cap _ _ hI' (by omega) (by omega)) ?_))
  all_goals
    go_wp2_with fail
    go_ret
    refine ⟨z, w1.heap.size, rfl, by omega, by omega, by simp [World.setCell]; omega, by simp [World.setCell], ?_, ?_⟩
    · exact (ref_copied w1.drew w1 z _ x _ _ rfl l1 s0 ⟨_, s1⟩ f0).drewN 2
    · have := (hB1.setCell (p := ⟨z, 1, none⟩) (by show _ ≤ z; omega) (.slice (some ⟨w1.heap.size, 0, none⟩) 6 (copyCapI w1.drew 6))).alloc (by simp [World.setCell]; omega) (.cells (copyCellsI w1.drew 6 fun i => x.s ↑i) 3)
      exact below_drewN this 2
end Go.Proofs.YtaihcceobnfmhaaGreatDoor

namespace Go.Proofs.YtaihcceobnfmhaaGreatDoor
open Go.RowKit

theorem list_set_same {α : Type} (l : List α) (i : Nat) (a : α) (h : l[i]? = some a) : l.set i a = l := by
  refine List.ext_getElem? fun j => ?_
  rw [List.getElem?_set]
  by_cases e : i = j
  · subst e
    rw [if_pos rfl, if_pos (List.getElem?_eq_some_iff.1 h).1, h]
  · rw [if_neg e]
/-- a pool of nobody's laid where one waits -/
theorem RSkAt.placedW {tag : Nat → Nat} {w1 : World} {sb pb g cap : Nat} {L : List Wt} {S : Sk} (h1 : RSkAt tag w1 sb pb (.slice (some ⟨g, 0, none⟩) L.length cap) L S) (hn : S.K.Nodup) (i : Nat) (t : Wt) (ht : L[i]? = some t) {x q : Nat} {y : St} (htx : tag x = 0) (htq : tag q = 0) (hR : RefAt w1 x q y) :
    ∃ tag', RSkAt tag' (((w1.setCell ⟨g, i * 3, none⟩ (.int .i64 t.1)).setCell ⟨g, i * 3 + 1, none⟩ (.int .i64 t.2.1)).setCell ⟨g, i * 3 + 2, none⟩ (.pointer (some ⟨x, 0, none⟩))) sb pb (.slice (some ⟨g, 0, none⟩) L.length cap) (L.set i (t.1, t.2.1, x)) ⟨S.R, S.P, S.K, set2 S.W t.1 t.2.1 y⟩ ∧ ∀ k, tag' k ≠ 0 ↔ (tag k ≠ 0 ∨ k = x ∨ k = q) := by
  obtain ⟨hx, hq⟩ := hR.lt
  obtain ⟨tg, nsg, npg⟩ := h1.tv g rfl
  have hi : i < L.length := (List.getElem?_eq_some_iff.1 ht).1
  have own := (((h1.own.stored (i * 3) (.int .i64 t.1)).1.stored (i * 3 + 1) (.int .i64 t.2.1)).1.stored (i * 3 + 2) (.pointer (some ⟨x, 0, none⟩))).1
  rw [wrow_set (t.1, t.2.1, x) L i hi] at own
  have hK1 : KeptP (fun k => k = g) w1 (((w1.setCell ⟨g, i * 3, none⟩ (.int .i64 t.1)).setCell ⟨g, i * 3 + 1, none⟩ (.int .i64 t.2.1)).setCell ⟨g, i * 3 + 2, none⟩ (.pointer (some ⟨x, 0, none⟩))) := KeptP.setCell (F := fun k => k = g) (KeptP.setCell (F := fun k => k = g) (KeptP.setCell (F := fun k => k = g) (KeptP.refl _ _) (p := ⟨g, i * 3, none⟩) rfl _) (p := ⟨g, i * 3 + 1, none⟩) rfl _) (p := ⟨g, i * 3 + 2, none⟩) rfl _
  generalize ((w1.setCell ⟨g, i * 3, none⟩ (.int .i64 t.1)).setCell ⟨g, i * 3 + 1, none⟩ (.int .i64 t.2.1)).setCell ⟨g, i * 3 + 2, none⟩ (.pointer (some ⟨x, 0, none⟩)) = w2 at *
  have ngx : ¬ x = g := fun e => by rw [e, tg] at htx; omega
  have ngq : ¬ q = g := fun e => by rw [e, tg] at htq; omega
  have hR2 : RefAt w2 x q y := hR.keptP hK1 ngx ngq
  have ns : ¬ sb = g := fun e => nsg e.symm
  have np : ¬ pb = g := fun e => npg e.symm
  have same : ∀ c k : Nat, tag k = c + 1 → c + 1 ≠ 5 + i → (if k = x ∨ k = q then 5 + i else if tag k = 5 + i then 1 else tag k) = c + 1 := fun c k e ne => by
    rw [if_neg (fun g => by rcases g with rfl | rfl <;> omega), if_neg (by omega), e]
  have ng : ∀ c k : Nat, tag k = c + 2 → ¬ k = g := fun c k e z => by rw [z, tg] at e; omega
  refine ⟨fun k => if k = x ∨ k = q then 5 + i else if tag k = 5 + i then 1 else tag k, ?_, fun k => ?_⟩
  · refine ⟨hK1.old h1.c0 ns, hK1.old h1.c1 ns, ?_, same 0 sb h1.ts (by omega), same 0 pb h1.tp (by omega), h1.ne, fun c hc hr => ?_, fun c hc hr => hK1.old (h1.p0 c hc hr) np, fun c hc => ?_, ?_, fun g' e => ⟨same 0 g' (h1.tv g' e).1 (by omega), (h1.tv g' e).2⟩, ?_, fun j u hu => ?_, fun k z => ?_⟩
    · rw [hK1.frozen (p := ⟨sb, 1, none⟩) (cell_lt h1.c1) ns]; exact h1.f1
    · obtain ⟨x', q', hc', hR', hx', hq'⟩ := h1.p c hc hr
      exact ⟨x', q', hK1.old hc' np, hR'.keptP hK1 (ng c x' (by omega)) (ng c q' (by omega)), (same (1 + c) x' (by omega) (by omega)).trans (by omega), (same (1 + c) q' (by omega) (by omega)).trans (by omega)⟩
    · have : (⟨pb, c, none⟩ : Addr).block < w1.heap.size := h1.tin pb (by rw [h1.tp]; decide)
      rw [hK1.frozen this np]; exact h1.fp c hc
    · rw [List.length_set]; exact own
    · show S.K = _
      rw [h1.keys, List.map_set]
      exact (list_set_same _ i _ (by rw [List.getElem?_map, ht]; rfl)).symm
    · rw [List.getElem?_set] at hu
      by_cases e : i = j
      · subst e
        rw [if_pos rfl, if_pos hi] at hu
        cases hu
        refine ⟨q, ?_, if_pos (.inl rfl), if_pos (.inr rfl)⟩
        show RefAt w2 x q (set2 S.W t.1 t.2.1 y t.1 t.2.1)
        rw [set2_same]; exact hR2
      · rw [if_neg e] at hu
        obtain ⟨q', hR', hx', hq'⟩ := h1.wat j u hu
        refine ⟨q', ?_, (same (4 + j) _ (by omega) (by omega)).trans (by omega), (same (4 + j) q' (by omega) (by omega)).trans (by omega)⟩
        have ne : (u.1, u.2.1) ≠ (t.1, t.2.1) := fun z => e (by
          have hl : i < (L.map Wt.key).length := by rw [List.length_map]; exact hi
          rw [h1.keys] at hn
          refine (List.getElem?_inj hl hn).1 ?_
          rw [List.getElem?_map, List.getElem?_map, hu, ht]
          exact congrArg some z.symm)
        show RefAt w2 u.2.2 q' (set2 S.W t.1 t.2.1 y u.1 u.2.1)
        rw [set2_other _ _ _ _ _ _ ne]
        exact hR'.keptP hK1 (ng (3 + j) _ (by omega)) (ng (3 + j) q' (by omega))
    · refine Nat.lt_of_lt_of_le ?_ hK1.size
      by_cases e : k = x ∨ k = q
      · rcases e with rfl | rfl
        · exact hx
        · exact hq
      · have : tag k ≠ 0 := fun e2 => z ((if_neg e).trans ((if_neg (by omega)).trans e2))
        exact h1.tin k this
  · show (if k = x ∨ k = q then 5 + i else if tag k = 5 + i then 1 else tag k) ≠ 0 ↔ _
    by_cases e : k = x ∨ k = q
    · rw [if_pos e]
      exact ⟨fun _ => .inr e, fun _ => by omega⟩
    · rw [if_neg e]
      by_cases e2 : tag k = 5 + i
      · rw [if_pos e2]
        exact ⟨fun _ => .inl (by omega), fun _ => by decide⟩
      · rw [if_neg e2]
        exact ⟨.inl, fun g => g.resolve_right e⟩
/-- a pool of nobody's laid behind all that waits -/
theorem RSkAt.placedA {tag : Nat → Nat} {w1 w2 : World} {sb pb : Nat} {v : Value} {L : List Wt} {S : Sk} (h1 : RSkAt tag w1 sb pb v L S) {b c : Int} {x q : Nat} {y : St} (htx : tag x = 0) (htq : tag q = 0) (hR : RefAt w1 x q y) {g cap : Nat} (hnew : (b, c) ∉ S.K)
    (own : w2.ownsRow 0 127 3 (.slice (some ⟨g, 0, none⟩) (L.length + 1) cap) (L.length + 1) (wrow L ++ [.int .i64 b, .int .i64 c, .pointer (some ⟨x, 0, none⟩)])) (hg : w1.grownBy w2 v.ownBlock) (hat : v.ownBlock = some g ∨ w1.heap.size ≤ g) (hlt : g < w2.heap.size) :
    ∃ tag', RSkAt tag' (w2.setCell ⟨sb, 1, none⟩ (.slice (some ⟨g, 0, none⟩) (L.length + 1) cap)) sb pb (.slice (some ⟨g, 0, none⟩) (L.length + 1) cap) (L ++ [(b, c, x)]) ⟨S.R, S.P, S.K ++ [(b, c)], set2 S.W b c y⟩ ∧ ∀ k, tag' k ≠ 0 ↔ (tag k ≠ 0 ∨ k = x ∨ k = q ∨ k = g) := by
  obtain ⟨hx, hq⟩ := hR.lt
  have hgf : ∀ k, tag k ≠ 0 → tag k ≠ 1 → k ≠ g := fun k e1 e2 z => by
    rcases hat with a | a
    · exact e2 (z ▸ (h1.tv g a).1)
    · have := h1.tin k e1
      omega
  have hK1 : KeptP (fun k => v.ownBlock = some k) w1 w2 := ⟨hg.os, hg.tape, hg.output, hg.size, fun k hk z => hg.block k hk fun e => z e.symm⟩
  have nv : ∀ k, tag k ≠ 1 → ¬ v.ownBlock = some k := fun k e z => e (h1.tv k z).1
  have nsv : ¬ v.ownBlock = some sb := fun z => (h1.tv sb z).2.1 rfl
  have npv : ¬ v.ownBlock = some pb := fun z => (h1.tv pb z).2.2 rfl
  have ls : sb < w1.heap.size := h1.tin sb (by rw [h1.ts]; decide)
  have lp : pb < w1.heap.size := h1.tin pb (by rw [h1.tp]; decide)
  have gs : g ≠ sb := by
    rcases hat with a | a
    · exact (h1.tv g a).2.1
    · omega
  have gp : g ≠ pb := by
    rcases hat with a | a
    · exact (h1.tv g a).2.2
    · omega
  have gx : g ≠ x := by
    rcases hat with a | a
    · intro e; rw [← e, (h1.tv g a).1] at htx; omega
    · omega
  have gq : g ≠ q := by
    rcases hat with a | a
    · intro e; rw [← e, (h1.tv g a).1] at htq; omega
    · omega
  have nsx : x ≠ sb := fun e => by rw [e, h1.ts] at htx; omega
  have nsq : q ≠ sb := fun e => by rw [e, h1.ts] at htq; omega
  have hK2 : KeptP (fun k => k = sb) w2 (w2.setCell ⟨sb, 1, none⟩ (.slice (some ⟨g, 0, none⟩) (L.length + 1) cap)) := KeptP.setCell (F := fun k => k = sb) (KeptP.refl _ _) (p := ⟨sb, 1, none⟩) rfl _
  have hR2 : RefAt (w2.setCell ⟨sb, 1, none⟩ (.slice (some ⟨g, 0, none⟩) (L.length + 1) cap)) x q y := (hR.keptP hK1 (nv x (by omega)) (nv q (by omega))).keptP hK2 nsx nsq
  have old2 : ∀ x' q' z, tag x' ≠ 1 → tag q' ≠ 1 → x' ≠ sb → q' ≠ sb → RefAt w1 x' q' z → RefAt (w2.setCell ⟨sb, 1, none⟩ (.slice (some ⟨g, 0, none⟩) (L.length + 1) cap)) x' q' z := fun x' q' z a1 a2 a3 a4 a5 => (a5.keptP hK1 (nv x' a1) (nv q' a2)).keptP hK2 a3 a4
  have c1' : w2.cell? ⟨sb, 1, none⟩ = some v := hK1.old h1.c1 nsv
  have same : ∀ c k : Nat, tag k = c + 1 → k ≠ g → (if k = x ∨ k = q then 5 + L.length else if k = g then 1 else tag k) = c + 1 := fun c k e ne => by
    rw [if_neg (fun g => by rcases g with rfl | rfl <;> omega), if_neg ne, e]
  have ns : ∀ k, tag k ≠ 1 → k ≠ sb := fun k e z => e (z ▸ h1.ts)
  have hsz : (w2.setCell ⟨sb, 1, none⟩ (.slice (some ⟨g, 0, none⟩) (L.length + 1) cap)).heap.size = w2.heap.size := by simp [World.setCell]
  have knew : ∀ k, k ∈ S.K → k ≠ (b, c) := fun k hk e => hnew (e ▸ hk)
  refine ⟨fun k => if k = x ∨ k = q then 5 + L.length else if k = g then 1 else tag k, ?_, fun k => ?_⟩
  · refine ⟨?_, World.cell?_setCell_same _ _ _ c1', ?_, same 0 sb h1.ts gs.symm, same 0 pb h1.tp gp.symm, h1.ne, fun i hi hr => ?_, fun i hi hr => ?_, fun i hi => ?_, ?_, fun g' e => ?_, ?_, fun j u hu => ?_, fun k z => ?_⟩
    · rw [World.cell?_setCell_other _ _ _ _ (by simp)]; exact hK1.old h1.c0 nsv
    · rw [World.frozen?_setCell, hK1.frozen (p := ⟨sb, 1, none⟩) ls nsv]; exact h1.f1
    · obtain ⟨x', q', hc', hR', hx', hq'⟩ := h1.p i hi hr
      have tx : tag x' ≠ 1 := by omega
      have tq : tag q' ≠ 1 := by omega
      refine ⟨x', q', hK2.old (hK1.old hc' npv) (fun e => h1.ne e.symm), old2 x' q' _ tx tq (ns x' tx) (ns q' tq) hR', (same (1 + i) x' (by omega) (hgf x' (by omega) tx)).trans (by omega), (same (1 + i) q' (by omega) (hgf q' (by omega) tq)).trans (by omega)⟩
    · exact hK2.old (hK1.old (h1.p0 i hi hr) npv) (fun e => h1.ne e.symm)
    · rw [World.frozen?_setCell, hK1.frozen (p := ⟨pb, i, none⟩) lp npv]; exact h1.fp i hi
    · rw [List.length_append, wrow_append]
      exact ownsRow_keptP own hK2 fun k e => by cases e; exact gs
    · cases e
      refine ⟨?_, gs, gp⟩
      show (if g = x ∨ g = q then 5 + L.length else if g = g then 1 else tag g) = 1
      rw [if_neg (fun z => by rcases z with z | z <;> omega), if_pos rfl]
    · show S.K ++ [(b, c)] = _
      rw [List.map_append, h1.keys]; rfl
    · by_cases e : j < L.length
      · rw [List.getElem?_append_left e] at hu
        obtain ⟨q', hR', hx', hq'⟩ := h1.wat j u hu
        have tx : tag u.2.2 ≠ 1 := by omega
        have tq : tag q' ≠ 1 := by omega
        refine ⟨q', ?_, (same (4 + j) _ (by omega) (hgf _ (by omega) tx)).trans (by omega), (same (4 + j) q' (by omega) (hgf q' (by omega) tq)).trans (by omega)⟩
        have ne : (u.1, u.2.1) ≠ (b, c) := knew _ (List.mem_of_getElem? (by rw [h1.keys, List.getElem?_map, hu]; rfl))
        show RefAt _ u.2.2 q' (set2 S.W b c y u.1 u.2.1)
        rw [set2_other _ _ _ _ _ _ ne]
        exact old2 _ q' _ tx tq (ns _ tx) (ns q' tq) hR'
      · rw [List.getElem?_append_right (by omega)] at hu
        obtain ⟨rfl, rfl⟩ : j = L.length ∧ u = (b, c, x) := by
          rw [List.getElem?_singleton] at hu
          split at hu
          · cases hu; exact ⟨by omega, rfl⟩
          · cases hu
        refine ⟨q, ?_, if_pos (.inl rfl), if_pos (.inr rfl)⟩
        show RefAt _ x q (set2 S.W b c y b c)
        rw [set2_same]; exact hR2
    · rw [hsz]
      by_cases e : k = x ∨ k = q
      · have := hK1.size
        rcases e with rfl | rfl <;> omega
      · by_cases e2 : k = g
        · omega
        · have : tag k ≠ 0 := fun e3 => z ((if_neg e).trans ((if_neg e2).trans e3))
          exact Nat.lt_of_lt_of_le (h1.tin k this) hK1.size
  · show (if k = x ∨ k = q then 5 + L.length else if k = g then 1 else tag k) ≠ 0 ↔ _
    by_cases e : k = x ∨ k = q
    · rw [if_pos e]
      refine ⟨fun _ => .inr ?_, fun _ => by omega⟩
      rcases e with e | e
      · exact .inl e
      · exact .inr (.inl e)
    · rw [if_neg e]
      by_cases e2 : k = g
      · rw [if_pos e2]
        exact ⟨fun _ => .inr (.inr (.inr e2)), fun _ => by decide⟩
      · rw [if_neg e2]
        refine ⟨.inl, fun z => ?_⟩
        rcases z with z | z | z | z
        · exact z
        · exact absurd (.inl z) e
        · exact absurd (.inr z) e
        · exact absurd z e2
theorem Tryz.infoWait : (Tryz.prog.info? 127).map (fun i => (i.zero, i.size, i.bytes)) = some (some (.agg #[.int .i64 0, .int .i64 0, .pointer none]), 3, 24) := by kernel_rfl
theorem KeptP.next {F : Nat → Prop} {a b c : World} {X : List Nat} (h : KeptP F a b) (k : Kept X b c) (hX : ∀ i, i ∈ X → a.heap.size ≤ i) : KeptP F a c :=
  h.trans (KeptP.of_kept (F := fun i => i ∈ X) k fun _ g => g) fun i hi g => absurd (hX i g) (by omega)
theorem KeptP.nextB {F : Nat → Prop} {a b c : World} (h : KeptP F a b) (k : Below b.heap.size b c) : KeptP F a c := h.trans (KeptP.of_below (F := fun _ => False) k) fun _ _ g => g.elim
theorem RSkAt.next {tag : Nat → Nat} {w w' : World} {sb pb : Nat} {v : Value} {L : List Wt} {S : Sk} {X : List Nat} (h : RSkAt tag w sb pb v L S) (k : Kept X w w') (hX : ∀ i, i ∈ X → tag i = 0) : RSkAt tag w' sb pb v L S := h.keptP (KeptP.of_kept (F := fun i => i ∈ X) k fun _ g => g) hX
theorem RSkAt.nextB {tag : Nat → Nat} {w w' : World} {sb pb : Nat} {v : Value} {L : List Wt} {S : Sk} (h : RSkAt tag w sb pb v L S) (k : Below w.heap.size w w') : RSkAt tag w' sb pb v L S := h.keptP (KeptP.of_below (F := fun _ => False) k) fun _ g => g.elim
theorem RefAt.nextB {w w' : World} {b q : Nat} {x : St} (h : RefAt w b q x) (k : Below w.heap.size w w') : RefAt w' b q x := h.keptP (KeptP.of_below (F := fun _ => False) k) (fun g => g) (fun g => g)
theorem RSkAt.new {tag : Nat → Nat} {w : World} {sb pb : Nat} {v : Value} {L : List Wt} {S : Sk} (h : RSkAt tag w sb pb v L S) {k : Nat} (hk : w.heap.size ≤ k) : tag k = 0 := Classical.byContradiction fun g => by have := h.tin k g; omega
theorem St.takeC_pos {x : St} {o n : Int} (h : x.takeC o n ≠ 0) : 0 < x.takeC o n := by
  unfold St.takeC at *
  split at h
  · rw [if_pos (by assumption)]; decide
  · rename_i h1
    rw [if_neg h1]
    split at h
    · rw [if_pos (by assumption)]; decide
    · rename_i h2
      rw [if_neg h2]
      split at h
      · rw [if_pos (by assumption)]; decide
      · exact absurd rfl h
theorem St.joinC_pos {x : St} {o n : Int} (h : x.joinC o n ≠ 0) : 0 < x.joinC o n := by
  unfold St.joinC at *
  split at h
  · rw [if_pos (by assumption)]; decide
  · rename_i h1
    rw [if_neg h1]
    split at h
    · rw [if_pos (by assumption)]; decide
    · rename_i h2
      rw [if_neg h2]
      split at h
      · rw [if_pos (by assumption)]; decide
      · rename_i h3
        rw [if_neg h3]
        split at h
        · rw [if_pos (by assumption)]; decide
        · exact absurd rfl h
theorem pair2 {a b : Nat} {P : Nat → Prop} (ha : P a) (hb : P b) : ∀ i, i ∈ [a, b] → P i := fun i h => by
  rcases List.mem_cons.1 h with e | e
  · exact e ▸ ha
  · exact (List.mem_singleton.1 e) ▸ hb

set_option maxRecDepth 100000 in
set_option maxHeartbeats 4000000 in
theorem rs_leave (F : Nat → Prop) (sb : Nat) (S : Sk) (hS : S.Ok) (hL : S.K.length ≤ 999) (o b n c : Int) (w : World) (h : RSk F w sb S) :
    Calls Tryz.prog 74 #[.pointer (some ⟨sb, 0, none⟩), .int .i64 o, .int .i64 b, .int .i64 n, .int .i64 c] w fun e w' => e = .returned (.int .i64 (S.leaveC o b n c)) ∧ ∃ F', RSk F' w' sb (S.leave o b n c) ∧ Moved F F' w w' := by
  have hh := h
  obtain ⟨tag, pb, v, L, hF, h⟩ := h
  have I := rs_is tag sb pb v L S hS b w h
  have c0 := h.c0
  cases hr : S.R b with
  | true =>
    rw [hr] at I
    obtain ⟨k, rfl⟩ : ∃ k : Nat, b = k := ⟨b.toNat, by have := hS.rin b hr; omega⟩
    have hk : k < 3 := by have := hS.rin _ hr; omega
    obtain ⟨x, q, hc, hR, hx, hq⟩ := h.p k hk hr
    by_cases hcy : Cy c
    · have C := ref_copy x q _ w hR
      have y0 := hcy.1
      have y1 := hcy.2
      have eC : Hid (S.leaveC o k n c = if (S.P k).takeC o n ≠ 0 then (S.P k).takeC o n else (S.W k c).joinC o n) := (if_pos hr).trans (if_neg (not_not_intro hcy))
      have HR := hide hr
      have kl : Hid (L.length ≤ 999) := by have := h.klen; show _ ≤ _; omega
      clear hr hR hx hq hcy
      go_enter Tryz.func74, Tryz.ntmps74
      go_wp2_with (first | (go_at_call 123; refine I.mono ?_; rintro e w' ⟨rfl, rfl⟩) | (go_at_call 126; refine C.mono ?_; rintro e w1 ⟨x1, q1, rfl, gx1, gq1, lx1, lq1, hR1, hB1⟩))
      refine (ref_take x1 q1 _ (hS.pok k) o n w1 hR1).mono ?_
      rintro e w2 ⟨rfl, hR2, hK2⟩
      have t1 := h.new gx1
      have t2 := h.new gq1
      have h2 := (h.nextB hB1).next hK2 (pair2 (P := fun i => tag i = 0) t1 t2)
      have M2 := ((KeptP.of_below hB1 : KeptP F _ _)).next hK2 (pair2 (P := fun i => w'.heap.size ≤ i) gx1 gq1)
      clear C I hR1 c0 hc hK2 hB1 lx1 lq1
      by_cases hT : (S.P k).takeC o n = 0
      · rw [hT]
        rw [hT] at eC
        have T := rs_find tag sb pb v L S k c (by have := kl.out; omega) w2 h2
        go_wp2_with fail
        refine T.mono ?_
        rintro e w3 ⟨⟨i, rfl, hf⟩, rfl⟩
        clear T
        go_wp2_with fail
        refine (ref_new w3).mono ?_
        rintro e w4 ⟨xw, qw, rfl, gx2, gq2, lx2, lq2, hR4, hB4⟩
        have u1 := h2.new gx2
        have u2 := h2.new gq2
        have lx1 := hR2.lt
        have h4 := h2.nextB hB4
        have hR4x := hR2.nextB hB4
        have M4 := M2.nextB hB4
        have sz4 := hB4.size
        have sz2 := M2.size
        clear hR2 h2 M2 hB4
        rcases hf with ⟨rfl, hn⟩ | ⟨j, t, rfl, ht, e1, e2⟩
        · have W0 : S.W k c = e0 := hS.wout k c (by rw [h.keys]; exact hn)
          rw [W0] at eC
          have J := ref_join xw qw e0 e0_ok o n w4 hR4
          go_wp2_with fail
          refine J.mono ?_
          rintro e w5 ⟨rfl, hR5, hK5⟩
          have h5 := h4.next hK5 (pair2 (P := fun i => tag i = 0) u1 u2)
          have hR5x := hR4x.kept hK5 (by simp; omega) (by simp; omega)
          have M5 := M4.next hK5 (pair2 (P := fun i => w'.heap.size ≤ i) (by omega) (by omega))
          clear J h4 hR4 hR4x M4 hK5
          by_cases hJ : e0.joinC o n = 0
          · rw [hJ]
            rw [hJ] at eC
            obtain ⟨x5, q5, hc5, _⟩ := h5.p k hk HR.out
            have f5 := h5.fp k hk
            have c5 := h5.c0
            obtain ⟨tag6, h6, ht6⟩ := h5.placed k hk t1 t2 hR5x
            have c6 := h6.c1
            have o6 := h6.own
            have E2 : Hid (S.leaveC o k n c = 0) := eC.out.trans (if_neg (by simp))
            obtain ⟨i0, hi, hz0, hz1, hz2⟩ := info_parts Tryz.infoWait
            have h6a := h6.nextB ((Below.refl _ _).alloc (Nat.le_refl _) (.cells #[.int .i64 k, .int .i64 c, .pointer (some ⟨xw, 0, none⟩)] 127))
            have z1 : tag6 xw = 0 := Classical.byContradiction fun z => by
              rcases (ht6 xw).1 z with e | e | e
              · exact e u1
              · omega
              · omega
            have z2 : tag6 qw = 0 := Classical.byContradiction fun z => by
              rcases (ht6 qw).1 z with e | e | e
              · exact e u2
              · omega
              · omega
            have hR6 := (hR5.keptP (F := fun i => i = pb) (KeptP.setCell (F := fun i => i = pb) (KeptP.refl _ _) (p := ⟨pb, k, none⟩) rfl (.pointer (some ⟨x1, 0, none⟩))) (fun e => by rw [e, h.tp] at u1; omega) (fun e => by rw [e, h.tp] at u2; omega)).nextB ((Below.refl _ _).alloc (Nat.le_refl _) (.cells #[.int .i64 k, .int .i64 c, .pointer (some ⟨xw, 0, none⟩)] 127))
            have N6 : ∀ j u, [Value.int .i64 k, .int .i64 c, .pointer (some ⟨xw, 0, none⟩)][j]? = some u → ((w5.setCell ⟨pb, k, none⟩ (.pointer (some ⟨x1, 0, none⟩))).alloc (.cells #[.int .i64 k, .int .i64 c, .pointer (some ⟨xw, 0, none⟩)] 127)).cell? ((⟨w5.heap.size, 0, none⟩ : Addr).add j) = some u := by
              have hs : w5.heap.size = (w5.setCell ⟨pb, k, none⟩ (.pointer (some ⟨x1, 0, none⟩))).heap.size := by simp [World.setCell]
              rw [hs]
              exact World.news_of_block (heap_alloc_new _ _)
            have one : ∀ u ∈ [Value.int .i64 k, .int .i64 c, .pointer (some ⟨xw, 0, none⟩)], u.oneCell' = true := by simp [Value.oneCell']
            have l63 : L.length + 1 ≤ maxLen := by have := kl.out; simp only [maxLen]; omega
            have l64 : (L.length + 1) * 24 ≤ 140737488355328 := by have := kl.out; omega
            go_wp2_with (at_builtin; refine wpList_append_lies _ rfl (.tmp 88) (.tmp 93) 120 rfl 0 127 i0 _ 3 24 Tryz.underlying120 hi hz0 hz1 hz2 rfl (by decide) v L.length (wrow L) rfl (o6.alloc _) ⟨w5.heap.size, 0, none⟩ 1 1 [.int .i64 k, .int .i64 c, .pointer (some ⟨xw, 0, none⟩)] rfl rfl N6 one (by decide) l63 l64 (Nat.zero_le _) (w5.heap.size + 1) (by simp [World.setCell]) ?_; intro g cap w7 hown hgrow hat hlt; have c7 : w7.cell? ⟨sb, 1, none⟩ = some v := (hgrow.cell_far ⟨sb, 1, none⟩ (h6a.tin sb (by rw [h6a.ts]; decide)) (fun e => (h6a.tv sb e.symm).2.1 rfl)).trans h6a.c1; have f7 : w7.frozen? ⟨sb, 1, none⟩ = false := (hgrow.frozen_far ⟨sb, 1, none⟩ (h6a.tin sb (by rw [h6a.ts]; decide)) (fun e => (h6a.tv sb e.symm).2.1 rfl)).trans h6a.f1)
            go_ret
            refine ⟨ret_int E2.out.symm, ?_⟩
            have hat' : v.ownBlock = some g ∨ ((w5.setCell ⟨pb, k, none⟩ (.pointer (some ⟨x1, 0, none⟩))).alloc (.cells #[.int .i64 k, .int .i64 c, .pointer (some ⟨xw, 0, none⟩)] 127)).heap.size ≤ g := by
              rcases hat with a | a
              · exact .inl a
              · exact .inr (by simp [World.setCell]; omega)
            have nk : ((k : Int), c) ∉ S.K := by rw [h.keys]; exact hn
            obtain ⟨tag7, h7, ht7⟩ := h6a.placedA (b := k) (c := c) z1 z2 hR6 nk hown hgrow hat' hlt
            have E3 : S.leave o k n c = ⟨S.R, set1 S.P k ((S.P k).take o n), S.K ++ [((k : Int), c)], set2 S.W k c (e0.join o n)⟩ := by
              unfold Sk.leave
              rw [if_pos E2.out, W0]
              unfold keyed2
              rw [if_neg nk]
            rw [set1_id S.R k true HR.out.symm] at h7
            rw [E3]
            refine ⟨fun i => tag7 i ≠ 0, ⟨tag7, pb, _, _, fun _ => Iff.rfl, h7⟩, ?_, fun i hi z => ?_⟩
            · have m1 := (M5.setCell (p := ⟨pb, k, none⟩) ((hF pb).2 (by rw [h.tp]; decide)) (.pointer (some ⟨x1, 0, none⟩))).nextB ((Below.refl _ _).alloc (Nat.le_refl _) (.cells #[.int .i64 k, .int .i64 c, .pointer (some ⟨xw, 0, none⟩)] 127))
              have m2 : KeptP (fun i => v.ownBlock = some i) _ w7 := ⟨hgrow.os, hgrow.tape, hgrow.output, hgrow.size, fun i hi z => hgrow.block i hi fun e => z e.symm⟩
              exact (m1.trans m2 fun i _ z => (hF i).2 (by rw [(h.tv i z).1]; decide)).setCell (p := ⟨sb, 1, none⟩) ((hF sb).2 (by rw [h.ts]; decide)) _
            · refine (hF i).2 ?_
              have s5 := M5.size
              rcases (ht7 i).1 z with e | e | e | e
              · rcases (ht6 i).1 e with e | e | e
                · exact e
                · omega
                · omega
              · omega
              · omega
              · rcases hat with a | a
                · rw [e, (h.tv g a).1]; decide
                · omega
          · have hP := St.joinC_pos hJ
            have E2 : Hid (S.leaveC o k n c = e0.joinC o n) := eC.out.trans (if_neg (by simp))
            have E3 : Hid (S.leave o k n c = S) := if_neg (by rw [E2.out]; exact hJ)
            clear hJ eC
            go_wp2_with fail
            go_ret
            exact ⟨ret_int E2.out.symm, RSk.some ⟨tag, pb, v, L, hF, h5⟩ ⟨M5, fun _ _ g => g⟩ E3.out⟩
        · have e2' : c = t.2.1 := e2.symm
          subst e2'
          have c4 := h4.c1
          have hj := (List.getElem?_eq_some_iff.1 ht).1
          obtain ⟨g, cap, rfl, hrow, _⟩ := h4.row (by omega)
          obtain ⟨_, _, d2⟩ := hrow j t ht
          obtain ⟨qt, hRt, _⟩ := h4.wat j t ht
          rw [e1] at hRt
          have C := ref_copy t.2.2 qt _ w4 hRt
          clear hRt hrow hR4
          go_wp2_with (go_at_call 126; refine C.mono ?_; rintro e w5 ⟨xc, qc, rfl, gx5, gq5, lx5, lq5, hR5, hB5⟩)
          refine (ref_join xc qc _ (hS.wok k t.2.1) o n w5 hR5).mono ?_
          rintro e w6 ⟨rfl, hR6, hK6⟩
          have v1 := h4.new gx5
          have v2 := h4.new gq5
          have sz5 := hB5.size
          have h6 := (h4.nextB hB5).next hK6 (pair2 (P := fun i => tag i = 0) v1 v2)
          have lx4 := hR4x.lt
          have hR6x := (hR4x.nextB hB5).kept hK6 (by simp; omega) (by simp; omega)
          have M6 := (M4.nextB hB5).next hK6 (pair2 (P := fun i => w'.heap.size ≤ i) (by omega) (by omega))
          clear C h4 hR4x M4 hK6 hR5 hB5 d2 c4
          by_cases hJ : (S.W k t.2.1).joinC o n = 0
          · rw [hJ]
            rw [hJ] at eC
            have E2 : Hid (S.leaveC o k n t.2.1 = 0) := eC.out.trans (if_neg (by simp))
            obtain ⟨x6, q6, hc6, _⟩ := h6.p k hk HR.out
            have f6 := h6.fp k hk
            have c6 := h6.c0
            obtain ⟨tag7, h7, ht7⟩ := h6.placed k hk t1 t2 hR6x
            have c7 := h7.c1
            obtain ⟨_, _, e7, hrow, f7⟩ := h7.row (by omega)
            cases e7
            obtain ⟨d0, d1, d2⟩ := hrow j t ht
            have r0 := f7 (j * 3)
            have r1 := f7 (j * 3 + 1)
            have r2 := f7 (j * 3 + 2)
            have z1 : tag7 xc = 0 := Classical.byContradiction fun z => by
              rcases (ht7 xc).1 z with e | e | e
              · exact e v1
              · omega
              · omega
            have z2 : tag7 qc = 0 := Classical.byContradiction fun z => by
              rcases (ht7 qc).1 z with e | e | e
              · exact e v2
              · omega
              · omega
            have hR7 := hR6.keptP (F := fun i => i = pb) (KeptP.setCell (F := fun i => i = pb) (KeptP.refl _ _) (p := ⟨pb, k, none⟩) rfl (.pointer (some ⟨x1, 0, none⟩))) (fun e => by rw [e, h.tp] at v1; omega) (fun e => by rw [e, h.tp] at v2; omega)
            go_wp2_with fail
            go_ret
            refine ⟨ret_int E2.out.symm, ?_⟩
            obtain ⟨tag8, h8, ht8⟩ := h7.placedW hS.knd j t ht z1 z2 hR7
            have mk : ((k : Int), t.2.1) ∈ S.K := by
              refine List.mem_of_getElem? (i := j) ?_
              rw [h.keys, List.getElem?_map, ht]
              exact congrArg some (by unfold Wt.key; rw [e1])
            have E3 : S.leave o k n t.2.1 = ⟨S.R, set1 S.P k ((S.P k).take o n), S.K, set2 S.W k t.2.1 ((S.W k t.2.1).join o n)⟩ := by
              unfold Sk.leave
              rw [if_pos E2.out]
              unfold keyed2
              rw [if_pos mk]
            rw [set1_id S.R k true HR.out.symm, e1] at h8
            rw [E3]
            refine ⟨fun i => tag8 i ≠ 0, ⟨tag8, pb, _, _, fun _ => Iff.rfl, h8⟩, ?_, fun i hi z => ?_⟩
            · have fg : F g := (hF g).2 (by rw [(h.tv g rfl).1]; decide)
              exact (((M6.setCell (p := ⟨pb, k, none⟩) ((hF pb).2 (by rw [h.tp]; decide)) _).setCell (p := ⟨g, j * 3, none⟩) fg _).setCell (p := ⟨g, j * 3 + 1, none⟩) fg _).setCell (p := ⟨g, j * 3 + 2, none⟩) fg _
            · refine (hF i).2 ?_
              have s6 := M6.size
              rcases (ht8 i).1 z with e | e | e
              · rcases (ht7 i).1 e with e | e | e
                · exact e
                · omega
                · omega
              · omega
              · omega
          · have hP := St.joinC_pos hJ
            have E2 : Hid (S.leaveC o k n t.2.1 = (S.W k t.2.1).joinC o n) := eC.out.trans (if_neg (by simp))
            have E3 : Hid (S.leave o k n t.2.1 = S) := if_neg (by rw [E2.out]; exact hJ)
            clear hJ eC
            go_wp2_with fail
            go_ret
            exact ⟨ret_int E2.out.symm, RSk.some ⟨tag, pb, _, L, hF, h6⟩ ⟨M6, fun _ _ g => g⟩ E3.out⟩
      · have hP := St.takeC_pos hT
        have E2 : Hid (S.leaveC o k n c = (S.P k).takeC o n) := eC.out.trans (if_pos hT)
        have E3 : Hid (S.leave o k n c = S) := if_neg (by rw [E2.out]; exact hT)
        clear hT eC
        go_wp2_with fail
        go_ret
        exact ⟨ret_int E2.out.symm, RSk.some ⟨tag, pb, v, L, hF, h2⟩ ⟨M2, fun _ _ g => g⟩ E3.out⟩
    · have E3 : Hid (S.leaveC o k n c = 2) := (if_pos hr).trans (if_pos hcy)
      have E1 : Hid (S.leave o k n c = S) := if_neg (by rw [E3.out]; decide)
      by_cases hc0 : 0 ≤ c
      · have hc1 : ¬ c ≤ 1048576 := fun g => hcy ⟨hc0, g⟩
        clear hr hcy
        go_enter Tryz.func74, Tryz.ntmps74
        go_wp2_with (go_at_call 123; refine I.mono ?_; rintro e w' ⟨rfl, rfl⟩)
        go_ret
        exact ⟨ret_int E3.out.symm, RSk.some hh (Moved.refl _ _) E1.out⟩
      · clear hr hcy
        go_enter Tryz.func74, Tryz.ntmps74
        go_wp2_with (go_at_call 123; refine I.mono ?_; rintro e w' ⟨rfl, rfl⟩)
        go_ret
        exact ⟨ret_int E3.out.symm, RSk.some hh (Moved.refl _ _) E1.out⟩
  | false =>
    rw [hr] at I
    have E3 : Hid (S.leaveC o b n c = 4) := if_neg (by rw [hr]; decide)
    have E1 : Hid (S.leave o b n c = S) := if_neg (by rw [E3.out]; decide)
    clear hr
    go_enter Tryz.func74, Tryz.ntmps74
    go_wp2_with (go_at_call 123; refine I.mono ?_; rintro e w' ⟨rfl, rfl⟩)
    go_ret
    exact ⟨ret_int E3.out.symm, RSk.some hh (Moved.refl _ _) E1.out⟩
end Go.Proofs.YtaihcceobnfmhaaGreatDoor
