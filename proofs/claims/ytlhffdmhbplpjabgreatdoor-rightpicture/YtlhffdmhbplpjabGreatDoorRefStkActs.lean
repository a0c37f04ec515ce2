/-
  The document's stakes (bakehouseref2.Stakes) by their contracts: new ones; a baker is registered, joined, added to.
-/
import Derived.Test.YtlhffdmhbplpjabGreatDoorRefStkTells
import Derived.Deep.RegionHeld3
namespace Go.Proofs.YtlhffdmhbplpjabGreatDoor
open Go.RowKit Go.Deep

/-- what an act on a baker's pool leaves -/
theorem RSkAt.acted {tag : Nat → Nat} {F : Nat → Prop} {w w' : World} {sb pb : Nat} {v : Value} {L : List Wt} {S : Sk} (hF : ∀ k, F k ↔ tag k ≠ 0) (h : RSkAt tag w sb pb v L S) (b : Nat) (hb : b < 3) (hr : S.R b = true) {x q : Nat} {y : St}
    (hx : tag x = 2 + b) (hq : tag q = 2 + b) (hc : w.cell? ⟨pb, b, none⟩ = some (.pointer (some ⟨x, 0, none⟩))) (hR : RefAt w' x q y) (hK : Kept [x, q] w w') : RSk F w' sb ⟨S.R, set1 S.P b y, S.K, S.W⟩ ∧ Moved F F w w' := by
  refine ⟨⟨tag, pb, v, L, hF, h.pool b hb hr hx hq hc hR hK⟩, KeptP.of_kept hK fun k g => ?_, fun _ _ g => g⟩
  rcases List.mem_cons.1 g with e | e
  · subst e; exact (hF _).2 (by omega)
  · rw [List.mem_singleton.1 e]; exact (hF _).2 (by omega)
theorem RSk.as {F : Nat → Prop} {w w' : World} {sb : Nat} {S T : Sk} (h : RSk F w' sb S ∧ Moved F F w w') (e : T = S) : RSk F w' sb T ∧ Moved F F w w' := by subst e; exact h

theorem rs_join (F : Nat → Prop) (sb : Nat) (S : Sk) (hS : S.Ok) (o b n : Int) (w : World) (h : RSk F w sb S) :
    Calls Tryz.prog 28 #[.pointer (some ⟨sb, 0, none⟩), .int .i64 o, .int .i64 b, .int .i64 n] w fun e w' => e = .returned (.int .i64 (S.joinC o b n)) ∧ RSk F w' sb (S.join o b n) ∧ Moved F F w w' := by
  obtain ⟨tag, pb, v, L, hF, h⟩ := h
  have I := rs_is tag sb pb v L S hS b w h
  have c0 := h.c0
  cases hr : S.R b with
  | true =>
    obtain ⟨k, rfl⟩ : ∃ k : Nat, b = k := ⟨b.toNat, by have := hS.rin b hr; omega⟩
    have hk : k < 3 := by have := hS.rin _ hr; omega
    obtain ⟨x, q, hc, hR, hx, hq⟩ := h.p k hk hr
    have J := ref_join x q _ (hS.pok k) o n w hR
    have e1 : Hid (S.joinC o k n = (S.P k).joinC o n) := if_pos hr
    have e2 : Hid (S.join o k n = ⟨S.R, set1 S.P k ((S.P k).join o n), S.K, S.W⟩) := if_pos hr
    have A1 : Hid (∀ w', RefAt w' x q ((S.P k).join o n) → Kept [x, q] w w' → RSk F w' sb ⟨S.R, set1 S.P k ((S.P k).join o n), S.K, S.W⟩ ∧ Moved F F w w') := fun w' g1 g2 => h.acted hF k hk hr hx hq hc g1 g2
    rw [hr] at I
    clear hr hR h hx hq
    go_enter Tryz.func28, Tryz.ntmps28
    go_wp2_with (first | (go_at_call 12; refine I.mono ?_; rintro e w' ⟨rfl, rfl⟩) | (go_at_call 52; refine J.mono ?_; rintro e w1 ⟨rfl, hR1, hK1⟩))
    go_ret
    exact ⟨ret_int e1.out.symm, RSk.as (A1.out _ hR1 hK1) e2.out⟩
  | false =>
    rw [hr] at I
    have e1 : Hid (S.joinC o b n = 4) := if_neg (by rw [hr]; decide)
    have e2 : Hid (S.join o b n = S) := if_neg (by rw [hr]; decide)
    clear hr
    go_enter Tryz.func28, Tryz.ntmps28
    go_wp2_with (go_at_call 12; refine I.mono ?_; rintro e w' ⟨rfl, rfl⟩)
    go_ret
    exact ⟨ret_int e1.out.symm, RSk.as ⟨⟨tag, pb, v, L, hF, h⟩, Moved.refl _ _⟩ e2.out⟩

theorem rs_add (F : Nat → Prop) (sb : Nat) (S : Sk) (hS : S.Ok) (b n : Int) (w : World) (h : RSk F w sb S) :
    Calls Tryz.prog 33 #[.pointer (some ⟨sb, 0, none⟩), .int .i64 b, .int .i64 n] w fun e w' => e = .returned (.int .i64 (S.addC b n)) ∧ RSk F w' sb (S.add b n) ∧ Moved F F w w' := by
  obtain ⟨tag, pb, v, L, hF, h⟩ := h
  have I := rs_is tag sb pb v L S hS b w h
  have c0 := h.c0
  cases hr : S.R b with
  | true =>
    obtain ⟨k, rfl⟩ : ∃ k : Nat, b = k := ⟨b.toNat, by have := hS.rin b hr; omega⟩
    have hk : k < 3 := by have := hS.rin _ hr; omega
    obtain ⟨x, q, hc, hR, hx, hq⟩ := h.p k hk hr
    have J := ref_add x q _ (hS.pok k) n w hR
    have e1 : Hid (S.addC k n = (S.P k).addC n) := if_pos hr
    have e2 : Hid (S.add k n = ⟨S.R, set1 S.P k ((S.P k).add n), S.K, S.W⟩) := if_pos hr
    have A1 : Hid (∀ w', RefAt w' x q ((S.P k).add n) → Kept [x, q] w w' → RSk F w' sb ⟨S.R, set1 S.P k ((S.P k).add n), S.K, S.W⟩ ∧ Moved F F w w') := fun w' g1 g2 => h.acted hF k hk hr hx hq hc g1 g2
    rw [hr] at I
    clear hr hR h hx hq
    go_enter Tryz.func33, Tryz.ntmps33
    go_wp2_with (first | (go_at_call 12; refine I.mono ?_; rintro e w' ⟨rfl, rfl⟩) | (go_at_call 60; refine J.mono ?_; rintro e w1 ⟨rfl, hR1, hK1⟩))
    go_ret
    exact ⟨ret_int e1.out.symm, RSk.as (A1.out _ hR1 hK1) e2.out⟩
  | false =>
    rw [hr] at I
    have e1 : Hid (S.addC b n = 4) := if_neg (by rw [hr]; decide)
    have e2 : Hid (S.add b n = S) := if_neg (by rw [hr]; decide)
    clear hr
    go_enter Tryz.func33, Tryz.ntmps33
    go_wp2_with (go_at_call 12; refine I.mono ?_; rintro e w' ⟨rfl, rfl⟩)
    go_ret
    exact ⟨ret_int e1.out.symm, RSk.as ⟨⟨tag, pb, v, L, hF, h⟩, Moved.refl _ _⟩ e2.out⟩

/-- a pool of nobody's laid for a baker -/
theorem RSkAt.placed {tag : Nat → Nat} {w1 : World} {sb pb : Nat} {v : Value} {L : List Wt} {S : Sk} (h1 : RSkAt tag w1 sb pb v L S) (b : Nat) (hb : b < 3) {x q : Nat} {y : St} (htx : tag x = 0) (htq : tag q = 0) (hR : RefAt w1 x q y) :
    ∃ tag', RSkAt tag' (w1.setCell ⟨pb, b, none⟩ (.pointer (some ⟨x, 0, none⟩))) sb pb v L ⟨set1 S.R b true, set1 S.P b y, S.K, S.W⟩ ∧ ∀ k, tag' k ≠ 0 ↔ (tag k ≠ 0 ∨ k = x ∨ k = q) := by
  obtain ⟨hx, hq⟩ := hR.lt
  have hcb : ∃ u, w1.cell? ⟨pb, b, none⟩ = some u := by
    cases e : S.R b with
    | true => obtain ⟨x', q', hc, _⟩ := h1.p b hb e; exact ⟨_, hc⟩
    | false => exact ⟨_, h1.p0 b hb e⟩
  have npx : ¬ x = pb := fun e => by rw [e, h1.tp] at htx; omega
  have npq : ¬ q = pb := fun e => by rw [e, h1.tp] at htq; omega
  have hK1 : KeptP (fun k => k = pb) w1 (w1.setCell ⟨pb, b, none⟩ (.pointer (some ⟨x, 0, none⟩))) := KeptP.setCell (F := fun k => k = pb) (KeptP.refl _ _) (p := ⟨pb, b, none⟩) rfl _
  have hR2 : RefAt (w1.setCell ⟨pb, b, none⟩ (.pointer (some ⟨x, 0, none⟩))) x q y := hR.keptP hK1 npx npq
  have hs : (w1.setCell ⟨pb, b, none⟩ (.pointer (some ⟨x, 0, none⟩))).heap.size = w1.heap.size := by simp [World.setCell]
  have same : ∀ c k : Nat, tag k = c + 1 → c + 1 ≠ 2 + b → (if k = x ∨ k = q then 2 + b else if tag k = 2 + b then 1 else tag k) = c + 1 := fun c k e ne => by
    rw [if_neg (fun g => by rcases g with rfl | rfl <;> omega), if_neg (by omega), e]
  have np : ∀ c k : Nat, tag k = c + 2 → k ≠ pb := fun c k e g => by rw [g, h1.tp] at e; omega
  refine ⟨fun k => if k = x ∨ k = q then 2 + b else if tag k = 2 + b then 1 else tag k, ?_, fun k => ?_⟩
  · refine ⟨hK1.old h1.c0 h1.ne, hK1.old h1.c1 h1.ne, ?_, same 0 sb h1.ts (by omega), same 0 pb h1.tp (by omega), h1.ne, fun c hc hr => ?_, fun c hc hr => ?_, fun c hc => ?_, ownsRow_keptP h1.own hK1 (fun g e => (h1.tv g e).2.2), fun g e => ⟨same 0 g (h1.tv g e).1 (by omega), (h1.tv g e).2⟩, h1.keys, fun i t ht => ?_, fun k g => ?_⟩
    · rw [hK1.frozen (p := ⟨sb, 1, none⟩) (cell_lt h1.c1) h1.ne]; exact h1.f1
    · by_cases e : c = b
      · subst e
        obtain ⟨u, hu⟩ := hcb
        refine ⟨x, q, World.cell?_setCell_same _ _ _ hu, ?_, if_pos (.inl rfl), if_pos (.inr rfl)⟩
        show RefAt _ x q (set1 S.P c y c)
        rw [set1_same]; exact hR2
      · have hr' : S.R c = true := (set1_other S.R b true c (by omega)).symm.trans hr
        obtain ⟨x', q', hc', hR', hx', hq'⟩ := h1.p c hc hr'
        refine ⟨x', q', ?_, ?_, (same (1 + c) x' (by omega) (by omega)).trans (by omega), (same (1 + c) q' (by omega) (by omega)).trans (by omega)⟩
        · rw [World.cell?_setCell_other _ _ _ _ (by simp <;> omega)]; exact hc'
        · show RefAt _ x' q' (set1 S.P b y c)
          rw [set1_other _ _ _ _ (by omega)]
          exact hR'.keptP hK1 (np c x' (by omega)) (np c q' (by omega))
    · have e : c ≠ b := fun e => by
        subst e
        rw [show (⟨set1 S.R c true, set1 S.P c y, S.K, S.W⟩ : Sk).R c = true from set1_same ..] at hr
        cases hr
      rw [World.cell?_setCell_other _ _ _ _ (by simp <;> omega)]
      exact h1.p0 c hc ((set1_other S.R b true c (by omega)).symm.trans hr)
    · rw [World.frozen?_setCell]; exact h1.fp c hc
    · obtain ⟨q', hR', hx', hq'⟩ := h1.wat i t ht
      exact ⟨q', hR'.keptP hK1 (np (3 + i) _ (by omega)) (np (3 + i) q' (by omega)), (same (4 + i) _ (by omega) (by omega)).trans (by omega), (same (4 + i) q' (by omega) (by omega)).trans (by omega)⟩
    · rw [hs]
      by_cases e : k = x ∨ k = q
      · rcases e with rfl | rfl
        · exact hx
        · exact hq
      · have : tag k ≠ 0 := fun e2 => g ((if_neg e).trans ((if_neg (by omega)).trans e2))
        exact h1.tin k this
  · show (if k = x ∨ k = q then 2 + b else if tag k = 2 + b then 1 else tag k) ≠ 0 ↔ _
    by_cases e : k = x ∨ k = q
    · rw [if_pos e]
      exact ⟨fun _ => .inr e, fun _ => by omega⟩
    · rw [if_neg e]
      by_cases e2 : tag k = 2 + b
      · rw [if_pos e2]
        exact ⟨fun _ => .inl (by omega), fun _ => by decide⟩
      · rw [if_neg e2]
        exact ⟨.inl, fun g => g.resolve_right e⟩
theorem RSk.some {F : Nat → Prop} {w w' : World} {sb : Nat} {S T : Sk} (h : RSk F w' sb S) (hM : Moved F F w w') (e : T = S) : ∃ F', RSk F' w' sb T ∧ Moved F F' w w' := by subst e; exact ⟨F, h, hM⟩
set_option maxRecDepth 100000 in
theorem rs_register (F : Nat → Prop) (sb : Nat) (S : Sk) (hS : S.Ok) (b : Int) (w : World) (h : RSk F w sb S) :
    Calls Tryz.prog 27 #[.pointer (some ⟨sb, 0, none⟩), .int .i64 b] w fun e w' => e = .returned (.int .i64 (S.regC b)) ∧ ∃ F', RSk F' w' sb (S.reg b) ∧ Moved F F' w w' := by
  by_cases hb : Bk b
  · obtain ⟨tag, pb, v, L, hF, h⟩ := h
    have c0 := h.c0
    obtain ⟨k, rfl⟩ : ∃ k : Nat, b = k := ⟨b.toNat, by omega⟩
    have hk : k < 3 := by omega
    cases hr : S.R k with
    | true =>
      obtain ⟨x, q, hc, _⟩ := h.p k hk hr
      have e1 : Hid (S.regC k = 5) := (if_neg (not_not_intro hb)).trans (if_pos hr)
      have e2 : Hid (S.reg k = S) := if_neg (by rw [e1.out]; decide)
      clear hr hb
      go_enter Tryz.func27, Tryz.ntmps27
      go_wp2
      go_ret
      exact ⟨ret_int e1.out.symm, RSk.some ⟨tag, pb, v, L, hF, h⟩ (Moved.refl _ _) e2.out⟩
    | false =>
      have hc := h.p0 k hk hr
      have fc := h.fp k hk
      have e1 : Hid (S.regC k = 0) := (if_neg (not_not_intro hb)).trans (if_neg (by rw [hr]; decide))
      have e2 : Hid (S.reg k = ⟨set1 S.R k true, set1 S.P k ⟨0, fun _ => 0⟩, S.K, S.W⟩) := by
        show _ = (⟨set1 S.R k true, set1 S.P k e0, S.K, S.W⟩ : Sk)
        rw [set1_id S.P k _ (hS.pout k hr).symm]
        exact if_pos e1.out
      have ne := h.ne
      have lp : Hid (pb < w.heap.size) := h.tin pb (by rw [h.tp]; decide)
      have ls : Hid (sb < w.heap.size) := h.tin sb (by rw [h.ts]; decide)
      clear hr hb
      go_enter Tryz.func27, Tryz.ntmps27
      go_wp2_with fail
      go_region_held3 (fun w' => w'.cell? ⟨sb, 0, none⟩ = some (.slice (some ⟨pb, 0, none⟩) 3 3)) (first | assumption | exact d2 _)
        ((go_at_call 51; refine (ref_new _).mono ?_; rintro e w1 ⟨x, q, rfl, gx, gq, lx, lq, hR, hB⟩; have c1 : w1.cell? ⟨sb, 0, none⟩ = some (.slice (some ⟨pb, 0, none⟩) 3 3) := (by rw [hB.cell (p := ⟨sb, 0, none⟩) ls.out]; exact c0); have d1 : w1.cell? ⟨pb, k, none⟩ = some (.pointer none) := (by rw [hB.cell (p := ⟨pb, k, none⟩) lp.out]; exact hc); have f1 : w1.frozen? ⟨pb, k, none⟩ = false := (by rw [hB.frozen (p := ⟨pb, k, none⟩) lp.out]; exact fc); have d2 : ∀ u, (w1.setCell ⟨pb, k, none⟩ u).cell? ⟨sb, 0, none⟩ = some (.slice (some ⟨pb, 0, none⟩) 3 3) := (fun u => by rw [World.cell?_setCell_other _ _ _ _ (by simp)]; exact c1)))
      go_wp2_with fail
      go_ret
      refine ⟨ret_int e1.out.symm, ?_⟩
      rw [e2.out]
      have hB' : Below w.heap.size w w1 := ⟨hB.os, hB.tape, hB.output, hB.size, hB.block⟩
      have gx' : w.heap.size ≤ x := gx
      have gq' : w.heap.size ≤ q := gq
      have h1 := h.keptP (F := fun _ => False) (KeptP.of_below hB') (fun _ g => g.elim)
      obtain ⟨tag', h2, ht⟩ := h1.placed k hk (Classical.byContradiction fun g => by have := h.tin x g; omega) (Classical.byContradiction fun g => by have := h.tin q g; omega) hR
      refine ⟨fun i => tag' i ≠ 0, ⟨tag', pb, v, L, fun _ => Iff.rfl, h2⟩, ?_, fun i hi g => ?_⟩
      · exact KeptP.setCell (F := F) (KeptP.of_below hB') (p := ⟨pb, k, none⟩) ((hF pb).2 (by rw [h.tp]; decide)) _
      · rcases (ht i).1 g with e | e | e
        · exact (hF i).2 e
        · omega
        · omega
  · have e1 : Hid (S.regC b = 2) := if_pos hb
    have e2 : Hid (S.reg b = S) := if_neg (by rw [e1.out]; decide)
    by_cases h0 : 0 ≤ b
    · have h3 : ¬ b < 3 := by omega
      clear hb
      go_enter Tryz.func27, Tryz.ntmps27
      go_wp2
      go_ret
      exact ⟨ret_int e1.out.symm, RSk.some h (Moved.refl _ _) e2.out⟩
    · clear hb
      go_enter Tryz.func27, Tryz.ntmps27
      go_wp2
      go_ret
      exact ⟨ret_int e1.out.symm, RSk.some h (Moved.refl _ _) e2.out⟩
theorem Tryz.infoPool : (Tryz.prog.info? 71).map (fun i => (i.zero, i.size, i.bytes)) = some (some (.pointer none), 1, 8) := by kernel_rfl
abbrev three : Array Value := #[.pointer none, .pointer none, .pointer none]
theorem made_three : madeCells #[.pointer none] 3 = three := by kernel_rfl
theorem make_three (w : World) : (Instr.makeSlice 50 (.int .i64 3) (.int .i64 3)).run Tryz.prog w = .ok (.slice (some ⟨w.heap.size, 0, none⟩) 3 3) (w.alloc (.cells three 71)) := by
  have h := run_make_row' (P := Tryz.prog) 50 71 (.pointer none) 8 Tryz.underlying50 Tryz.infoPool rfl .i64 .i64 3 (by omega) (by omega) w
  rw [made_three] at h
  exact h
theorem three_at (i : Nat) (h : i < 3) : three[i]? = some (.pointer none) := by
  have : i = 0 ∨ i = 1 ∨ i = 2 := by omega
  rcases this with rfl | rfl | rfl <;> rfl
theorem rs_fresh (w : World) (t u : TypeId) : RSk (fun k => k = w.heap.size + 1 ∨ k = w.heap.size) ((w.alloc (.cells three t)).alloc (.cells #[.slice (some ⟨w.heap.size, 0, none⟩) 3 3, .slice none 0 0] u)) (w.heap.size + 1) Sk.none := by
  refine ⟨fun k => if k = w.heap.size + 1 ∨ k = w.heap.size then 1 else 0, w.heap.size, .slice none 0 0, [], fun k => ?_, ?_⟩
  · show _ ↔ (if _ then 1 else 0) ≠ 0
    split <;> simp_all
  · refine ⟨cell_new _ _ _ _ _ _ (by simp) rfl, cell_new _ _ _ _ _ _ (by simp) rfl, World.frozen?_alloc_at _ _ _ _ (by simp), if_pos (.inl rfl), if_pos (.inr rfl), by omega, fun b _ hr => (by cases hr), fun b hb _ => ?_, fun b _ => ?_, World.ownsRow_nil _ _ _ _, fun g e => (by cases e), rfl, fun i t ht => (by simp at ht), fun k hk => ?_⟩
    · rw [World.cell?_alloc_lt _ _ _ (by simp)]
      exact cell_new _ _ _ _ _ _ rfl (three_at b hb)
    · rw [World.frozen?_alloc_past _ _ _ (by simp)]
      exact World.frozen?_alloc_at _ _ _ _ rfl
    · by_cases e : k = w.heap.size + 1 ∨ k = w.heap.size
      · simp; omega
      · exact absurd (if_neg e) hk
set_option maxRecDepth 100000 in
theorem rs_new (w : World) :
    Calls Tryz.prog 7 #[] w fun e w' => ∃ sb F, e = .returned (.pointer (some ⟨sb, 0, none⟩)) ∧ RSk F w' sb Sk.none ∧ (∀ k, F k → w.heap.size ≤ k) ∧ w.heap.size ≤ sb ∧ Below w.heap.size w w' := by
  have hm := make_three
  go_enter Tryz.func7, Tryz.ntmps7
  go_wp2
  go_ret
  exact ⟨w.heap.size + 1, _, rfl, rs_fresh w _ _, fun k hk => by omega, by omega, ((Below.refl _ _).alloc (Nat.le_refl _) _).alloc (by simp) _⟩
end Go.Proofs.YtlhffdmhbplpjabGreatDoor
