/-
  The document's court (bakehouseref2.Court) by its contracts: evidence is brought.
-/
import Derived.Test.YtamjnkjgdaojiaaDoorRefCourt
import Derived.Test.YtamjnkjgdaojiaaDoorEvEq
import Derived.Test.YtamjnkjgdaojiaaDoorKeptP
namespace Go.Proofs.YtamjnkjgdaojiaaDoor
open Go.RowKit

theorem Tryd.infoCase : (Tryd.prog.info? 61).map (fun i => (i.zero, i.size, i.bytes)) = some (some (.agg #[.int .i64 0, .int .i64 0, .int .i64 0, .int .i64 0]), 4, 32) := by kernel_rfl
/-- a case more -/
theorem RCtAt.placed {w1 w2 : World} {cb : Nat} {v : Value} {x : Ct} (h : RCtAt w1 cb v x) {g cap : Nat} (t : Cs)
    (own : w2.ownsRow 0 61 4 (.slice (some ⟨g, 0, none⟩) (x.L.length + 1) cap) (x.L.length + 1) (crow x.L ++ [.int .i64 t.1, .int .i64 t.2.1, .int .i64 t.2.2.1, .int .i64 t.2.2.2])) (hg : w1.grownBy w2 v.ownBlock) (hat : v.ownBlock = some g ∨ w1.heap.size ≤ g) :
    RCtAt (w2.setCell ⟨cb, 0, none⟩ (.slice (some ⟨g, 0, none⟩) (x.L.length + 1) cap)) cb (.slice (some ⟨g, 0, none⟩) (x.L.length + 1) cap) ⟨x.L ++ [t], x.done⟩ := by
  have hK1 : KeptP (fun k => v.ownBlock = some k) w1 w2 := ⟨hg.os, hg.tape, hg.output, hg.size, fun k hk z => hg.block k hk fun e => z e.symm⟩
  have lc := cell_lt h.c0
  have gc : g ≠ cb := by
    rcases hat with a | a
    · exact fun e => h.tv (e ▸ a)
    · exact fun e => by subst e; exact absurd lc (Nat.not_lt.2 a)
  have hK2 : KeptP (fun k => k = cb) w2 (w2.setCell ⟨cb, 0, none⟩ (.slice (some ⟨g, 0, none⟩) (x.L.length + 1) cap)) := KeptP.setCell (F := fun k => k = cb) (KeptP.refl _ _) (p := ⟨cb, 0, none⟩) rfl _
  refine ⟨World.cell?_setCell_same _ _ _ (hK1.old h.c0 h.tv), ?_, ?_, ?_, ?_, fun e => ?_⟩
  · rw [World.cell?_setCell_other _ _ _ _ (by simp)]; exact hK1.old h.c1 h.tv
  · rw [World.frozen?_setCell, hK1.frozen (p := ⟨cb, 0, none⟩) lc h.tv]; exact h.f0
  · rw [World.frozen?_setCell, hK1.frozen (p := ⟨cb, 1, none⟩) lc h.tv]; exact h.f1
  · show World.ownsRow _ 0 _ 4 _ (x.L ++ [t]).length (crow (x.L ++ [t]))
    rw [List.length_append, crow_append]
    exact ownsRow_keptP own hK2 fun k e => by cases e; exact gc
  · cases e; exact gc rfl
set_option maxRecDepth 100000 in
set_option maxHeartbeats 2000000 in
theorem rc_accuse (F : Nat → Prop) (cb : Nat) (x : Ct) (_hx : x.Ok) (hl : x.L.length ≤ 900) (o b y m c : Int) (w : World) (h : RCt F w cb x) (h1 : AccIn o (b, y, m) c) (h2 : AccNow (b, y, m) c) :
    Calls Tryd.prog 33 #[.pointer (some ⟨cb, 0, none⟩), .int .i64 o, .agg #[.int .i64 b, .int .i64 y, .int .i64 m], .int .i64 c] w fun e w' => e = .returned (.int .i64 (x.accC o (b, y, m) c)) ∧ ∃ F', RCt F' w' cb (x.acc o (b, y, m) c) ∧ Moved F F' w w' := by
  obtain ⟨v, hF, h⟩ := h
  have I := isOwner_yes o h1.1.1 h1.1.2
  have A1 := hide h1
  have A2 := hide h2
  obtain ⟨_, ⟨b0, b3⟩, m0, c0, c1⟩ := h1
  obtain ⟨y0, yc, yc2⟩ := h2
  simp only [] at b0 b3 m0 y0 yc yc2
  obtain ⟨a, cap, rfl⟩ := h.shape
  have hB : Below w.heap.size w (w.alloc (.cells #[.int .i64 b, .int .i64 y, .int .i64 m] 53)) := (Below.refl _ _).alloc (Nat.le_refl _) _
  have h4 := h.keptP (KeptP.of_below (F := fun _ => False) hB) (fun g => g) (fun _ _ g => g)
  have s0 : (w.alloc (.cells #[.int .i64 b, .int .i64 y, .int .i64 m] 53)).cell? ⟨w.heap.size, 0, none⟩ = some (.int .i64 b) := by simp
  have s1 : (w.alloc (.cells #[.int .i64 b, .int .i64 y, .int .i64 m] 53)).cell? ⟨w.heap.size, 1, none⟩ = some (.int .i64 y) := by simp
  have s2 : (w.alloc (.cells #[.int .i64 b, .int .i64 y, .int .i64 m] 53)).cell? ⟨w.heap.size, 2, none⟩ = some (.int .i64 m) := by simp
  have MW : Hid (KeptP F w (w.alloc (.cells #[.int .i64 b, .int .i64 y, .int .i64 m] 53))) := KeptP.of_below hB
  go_enter Tryd.func33, Tryd.ntmps33
  go_wp2_with (go_at_call 44; refine (I _).mono ?_; rintro e w' ⟨rfl, rfl⟩)
  generalize hne : w.heap.size = ne at s0 s1 s2 ⊢
  generalize w.alloc (.cells #[.int .i64 b, .int .i64 y, .int .i64 m] 53) = w4 at *
  go_loopw [10] (fun i wr => ∃ k n : Nat, k ≤ x.L.length ∧ i = .int .i64 k ∧ wr = w4.drewN n ∧ Hid (∀ (j : Nat) (t : Cs), j < k → x.L[j]? = some t → t.2 ≠ (b, y, m))) (fun i _ => x.L.length - (intOf i).toNat)
  case atStart => exact ⟨0, 0, Nat.zero_le _, rfl, rfl, fun j t hj => absurd hj (Nat.not_lt_zero j)⟩
  case round =>
    obtain ⟨k, nd, hk, rfl, hw, hno⟩ := hrel
    have hr : RCtAt wr cb (.slice a x.L.length cap) x := by rw [hw]; exact h4.keptP (G := fun _ => False) ((KeptP.refl _ _).drewN nd) (fun g => g) (fun _ _ g => g)
    have r0 : wr.cell? ⟨ne, 0, none⟩ = some (.int .i64 b) := by rw [hw]; exact s0
    have r1 : wr.cell? ⟨ne, 1, none⟩ = some (.int .i64 y) := by rw [hw]; exact s1
    have r2 : wr.cell? ⟨ne, 2, none⟩ = some (.int .i64 m) := by rw [hw]; exact s2
    have HW := hide hw
    clear hw
    have q0 := hr.c0
    by_cases hlt : k < x.L.length
    · obtain ⟨g, cap', e, hc⟩ := hr.row (by omega)
      obtain ⟨rfl, rfl⟩ : a = some ⟨g, 0, none⟩ ∧ cap = cap' := by cases e; exact ⟨rfl, rfl⟩
      obtain ⟨t, ht⟩ : ∃ t, x.L[k]? = some t := ⟨x.L[k], List.getElem?_eq_getElem hlt⟩
      obtain ⟨_, d1, d2, d3⟩ := hc k t ht
      have E1 := ev_guard
      have E2 := fun w => ev_eql t.2.1 t.2.2.1 t.2.2.2 b y m w
      by_cases hq : t.2 = (b, y, m)
      · rw [show decide ((t.2.1, t.2.2.1, t.2.2.2) = (b, y, m)) = true from decide_eq_true hq] at E2
        have S1 : Hid (x.accC o (b, y, m) c = 5) := by
          show _ = _
          unfold Ct.accC
          rw [if_neg (not_not_intro A1.out), if_neg (not_not_intro A2.out), (Ct.seen_iff x _).2 (List.mem_map.2 ⟨t, List.mem_of_getElem? ht, hq⟩)]
          rfl
        have S2 : Hid (x.acc o (b, y, m) c = x) := if_neg (by rw [S1.out]; decide)
        clear hno hc e hq
        go_wp2_with fail
        go_quiet (fail)
        go_wp2_with fail
        go_ret
        refine ⟨ret_int S1.out.symm, F, ⟨_, hF, ?_⟩, ?_, fun _ _ g => g⟩
        · rw [S2.out]
          exact hr.keptP (G := fun _ => False) ((KeptP.refl _ _).drewN _) (fun g => g) (fun _ _ g => g)
        · rw [HW.out]
          exact ((MW.out.drewN nd).drewN _)
      · rw [show decide ((t.2.1, t.2.2.1, t.2.2.2) = (b, y, m)) = false from decide_eq_false hq] at E2
        have S1 : Hid (∀ (j : Nat) (u : Cs), j < k + 1 → x.L[j]? = some u → u.2 ≠ (b, y, m)) := fun j u hj hu g => by
          rcases Nat.lt_or_eq_of_le (Nat.le_of_lt_succ hj) with l | l
          · exact hno.out j u l hu g
          · subst l; rw [ht] at hu; cases hu; exact hq g
        clear hno hc e hq
        go_wp2_with fail
        go_quiet (fail)
        go_wp2_with fail
        go_roundw
        case rel => exact ⟨k + 1, _, by omega, by go_num, by rw [HW.out, drewN_twice], S1⟩
        case measure => simp [intOf]; omega
    · obtain rfl : k = x.L.length := by omega
      have S0 : x.seen (b, y, m) = false := by
        cases g : x.seen (b, y, m) with
        | false => rfl
        | true =>
          obtain ⟨t, ht, e⟩ := List.mem_map.1 ((Ct.seen_iff x _).1 g)
          obtain ⟨j, hj, ej⟩ := List.mem_iff_getElem.1 ht
          exact absurd e (hno.out j t hj (by rw [List.getElem?_eq_getElem hj, ej]))
      have S1 : Hid (x.accC o (b, y, m) c = 0) := by
        show _ = _
        unfold Ct.accC
        rw [if_neg (not_not_intro A1.out), if_neg (not_not_intro A2.out), S0]
        rfl
      have S2 : Hid (x.acc o (b, y, m) c = ⟨x.L ++ [(o, b, y, m)], x.done⟩) := if_pos S1.out
      clear hno S0 hlt
      go_wp2_with fail
      have hd : RCtAt (wr.drew.alloc (.cells #[.int .i64 o, .int .i64 b, .int .i64 y, .int .i64 m] 61)) cb (.slice a x.L.length cap) x := hr.keptP (G := fun _ => False) ((KeptP.refl _ _).drew.trans (KeptP.of_below (F := fun _ => False) ((Below.refl _ _).alloc (Nat.le_refl _) _)) fun _ _ g => g) (fun g => g) (fun _ _ g => g)
      obtain ⟨i0, hi, hz0, hz1, hz2⟩ := info_parts Tryd.infoCase
      have N6 : ∀ j u, [Value.int .i64 o, .int .i64 b, .int .i64 y, .int .i64 m][j]? = some u → (wr.drew.alloc (.cells #[.int .i64 o, .int .i64 b, .int .i64 y, .int .i64 m] 61)).cell? ((⟨wr.heap.size, 0, none⟩ : Addr).add j) = some u := World.news_of_block (heap_alloc_new wr.drew _)
      have one : ∀ u ∈ [Value.int .i64 o, .int .i64 b, .int .i64 y, .int .i64 m], u.oneCell' = true := by simp [Value.oneCell']
      have l63 : x.L.length + 1 ≤ maxLen := by simp only [maxLen]; omega
      have l64 : (x.L.length + 1) * 32 ≤ 140737488355328 := by omega
      have lc := cell_lt hd.c0
      have ow := hd.own
      have c8 : (wr.alloc (.cells #[.int .i64 o, .int .i64 b, .int .i64 y, .int .i64 m] 61)).cell? ⟨cb, 0, none⟩ = some (.slice a x.L.length cap) := hd.c0
      have ncb : cb ≠ wr.heap.size := Nat.ne_of_lt (cell_lt q0)
      go_region_law ((refine step_append_lies _ (by rfl) (.tmp 77) (.tmp 81) 49 (by rfl) 0 61 i0 _ 4 32 Tryd.underlying49 hi hz0 hz1 hz2 rfl (by decide) (.slice a x.L.length cap) x.L.length (crow x.L) (by rfl) ow ⟨wr.heap.size, 0, none⟩ 1 1 [.int .i64 o, .int .i64 b, .int .i64 y, .int .i64 m] (by rfl) rfl N6 one (by decide) l63 l64 (Nat.zero_le _) (wr.heap.size + 1) (by simp) ?_; intro g cap1 w7 hown hgrow hat hlt; have c7 : w7.cell? ⟨cb, 0, none⟩ = some (.slice a x.L.length cap) := (hgrow.cell_far ⟨cb, 0, none⟩ lc (fun e => hd.tv e.symm)).trans hd.c0; have f7 : w7.frozen? ⟨cb, 0, none⟩ = false := (hgrow.frozen_far ⟨cb, 0, none⟩ lc (fun e => hd.tv e.symm)).trans hd.f0))
      all_goals
        go_wp2_with fail
        go_ret
        have h7 := hd.placed (o, b, y, m) hown hgrow (hat.imp id fun e => by rw [e]; simp)
        refine ⟨ret_int S1.out.symm, fun k => k = cb ∨ k = g, ⟨_, fun k => ⟨fun z => z.imp id fun e => by rw [e]; rfl, fun z => z.imp id fun e => by cases e; rfl⟩, S2.out ▸ h7⟩, ?_, fun k hk z => ?_⟩
        · have m2 : KeptP (fun i => (Value.slice a x.L.length cap).ownBlock = some i) _ w7 := ⟨hgrow.os, hgrow.tape, hgrow.output, hgrow.size, fun i hi z => hgrow.block i hi fun e => z e.symm⟩
          have m1 : KeptP F w wr := by rw [HW.out]; exact MW.out.drewN nd
          have m3 := m1.drew.trans (KeptP.of_below (F := fun _ => False) ((Below.refl _ wr.drew).alloc (Nat.le_refl _) (.cells #[.int .i64 o, .int .i64 b, .int .i64 y, .int .i64 m] 61))) fun _ _ g => g.elim
          exact (m3.trans m2 fun i _ z => (hF i).2 (.inr z)).setCell (p := ⟨cb, 0, none⟩) ((hF cb).2 (.inl rfl)) _
        · have m1 : KeptP F w wr := by rw [HW.out]; exact MW.out.drewN nd
          have := m1.size
          rcases z with e | e
          · exact (hF k).2 (.inl e)
          · rcases hat with q | q
            · exact (hF k).2 (.inr (e ▸ q))
            · omega
end Go.Proofs.YtamjnkjgdaojiaaDoor
