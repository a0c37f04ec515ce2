/-
  The program's stakes by their contracts: what is done with one baker.
  The program's stakes by their contracts: what is done with all bakers.
  A row of cases, as it lies in memory.
  A map whose keys are evidence (structs of three ints), as a set: looked up, written.
-/
import Derived.Test.YtmbfdhekplnoaaaGreatDoorProgStkTellsX
import Derived.OwnWalk
import Derived.Test.YtmbfdhekplnoaaaGreatDoorIssueMathX
import Derived.Test.YtmbfdhekplnoaaaGreatDoorProgPurseActsX
import Derived.Maps.OwnSet
import Derived.DeepKeys4
namespace Go.Proofs.YtmbfdhekplnoaaaGreatDoor
open Go.RowKit Go.Maps

/-! one baker turned, or none -/
theorem PSk.turned {F : Nat → Prop} {G : Int → Nat → Prop} {bb : Int → Nat} {w w' : World} {sb g : Nat} {S S' : Sk} (hf : ∀ k, F k ↔ k = sb ∨ ∃ b, G b k) (h : PSkAt G bb w sb S (fun _ => g)) {b : Int} (hr : S.R b = true) {G' : Nat → Prop} {P' : St} {W' : Int → St}
    (hB : Bkr G' w' (bb b) P' W' (g + 4)) (hM : Moved (G b) G' w w') (hR : ∀ i, S'.R i = S.R i) (hP : S'.P b = P') (hW : S'.W b = W') (hPo : ∀ i, i ≠ b → S'.P i = S.P i) (hWo : ∀ i, i ≠ b → S'.W i = S.W i) : ∃ F', PSk F' w' sb S' (g + 4) ∧ Moved F F' w w' :=
  ⟨_, (h.turn hr hB hM hR hP hW hPo hWo).sk (fun i => by
    by_cases e : i = b
    · subst e; rw [set1_same]; exact Nat.le_refl _
    · rw [set1_other _ _ _ _ e]; omega), moved_turn hf hM⟩
theorem PSk.same {F : Nat → Prop} {G : Int → Nat → Prop} {bb : Int → Nat} {w w' : World} {sb g : Nat} {S : Sk} (hf : ∀ k, F k ↔ k = sb ∨ ∃ b, G b k) (h : PSkAt G bb w sb S (fun _ => g)) (hB : Below w.heap.size w w') : ∃ F', PSk F' w' sb S (g + 4) ∧ Moved F F' w w' :=
  ⟨F, PSk.more ⟨G, bb, hf, h.below hB⟩ (by omega), KeptP.of_below hB, fun _ _ g => g⟩
theorem Bkr.poolTurned {F : Nat → Prop} {tag : Nat → Tg} {w w' : World} {bb p pm wm g : Nat} {P P' : St} {H : Int → Bool} {q qm : Int → Nat} {W : Int → St} (hf : ∀ k, F k ↔ tag k ≠ Tg.no) (hb : BkAt tag w bb p pm wm P g H q qm W (fun _ => g)) (hq : OwnQ w wm H q g)
    (h0 : ∀ c, H c = false → W c = e0) (hcy : ∀ c, H c = true → Cy c) (hP : PoolAt w' p pm P' (g + 4)) (hK : Kept [p, pm] w w') : Bkr F w' bb P' W (g + 4) ∧ Moved F F w w' := by
  obtain ⟨hb', hT⟩ := hb.poolTurned hK hP
  exact ⟨⟨tag, p, pm, wm, H, q, qm, hf, hb'.congr (fun _ _ => rfl) (fun _ _ => Nat.le_add_right _ _), (hq.of_block (hT.block wm hq.lt (by rw [hb.tm]; intro e; cases e))).more (by omega), h0, hcy⟩, hT.mono (fun k _ e => (hf k).2 (by rw [e]; intro i; cases i)), fun _ _ g => g⟩

theorem Bkr.poolTurned0 {F : Nat → Prop} {tag : Nat → Tg} {w w' : World} {bb p pm wm g : Nat} {P P' : St} {H : Int → Bool} {q qm : Int → Nat} {W : Int → St} (hf : ∀ k, F k ↔ tag k ≠ Tg.no) (hb : BkAt tag w bb p pm wm P g H q qm W (fun _ => g)) (hq : OwnQ w wm H q g)
    (h0 : ∀ c, H c = false → W c = e0) (hcy : ∀ c, H c = true → Cy c) (hP : PoolAt w' p pm P' g) (hK : Kept [p, pm] w w') : Bkr F w' bb P' W g ∧ Moved F F w w' := by
  obtain ⟨hb', hT⟩ := hb.poolTurned hK hP
  exact ⟨⟨tag, p, pm, wm, H, q, qm, hf, hb', hq.of_block (hT.block wm hq.lt (by rw [hb.tm]; intro e; cases e)), h0, hcy⟩, hT.mono (fun k _ e => (hf k).2 (by rw [e]; intro i; cases i)), fun _ _ g => g⟩

/-! new stakes -/
theorem ps_new (w : World) :
    Calls Tryz.prog 198 #[] w fun e w' => ∃ sb F, e = .returned (.pointer (some ⟨sb, 0, none⟩)) ∧ PSk F w' sb Sk.none 0 ∧ (∀ k, F k → w.heap.size ≤ k) ∧ Below w.heap.size w w' := by
  go_enter Tryz.func198, Tryz.ntmps198
  go_wp2
  go_ret
  refine ⟨w.heap.size, fun k => k = w.heap.size, rfl, ⟨fun _ _ => False, fun _ => 0, fun k => ⟨.inl, fun g => g.elim (fun e => e) (fun ⟨_, e⟩ => e.elim)⟩, fun b hb => ?_, fun b hb => World.frozen?_alloc_at _ _ _ _ rfl, fun _ e => (by cases e), fun _ _ _ e => e, fun _ _ _ e => e.elim, fun _ _ e => e.elim⟩, fun k e => by rw [e]; exact Nat.le_refl _, (Below.refl _ _).alloc (Nat.le_refl _) _⟩
  have : b = 0 ∨ b = 1 ∨ b = 2 := by omega
  rcases this with rfl | rfl | rfl <;> exact cell_new _ _ _ _ _ _ rfl rfl

/-! a new baker -/
theorem bkr_fresh {w : World} {nb pb pm m : Nat} (c0 : w.cell? ⟨nb, 0, none⟩ = some (.pointer (some ⟨pb, 0, none⟩))) (c1 : w.cell? ⟨nb, 1, none⟩ = some (.map (some m))) (f0 : w.frozen? ⟨nb, 0, none⟩ = false) (hP : PoolAt w pb pm e0 0) (hq : OwnQ w m (fun _ => false) (fun _ => 0) 0) (hne : m ≠ pm) :
    Bkr (fun k => k = nb ∨ k = pb ∨ k = pm ∨ k = m) w nb e0 (fun _ => e0) 0 := by
  have n1 : nb ≠ pb := fun e => by rw [e, hP.c0] at c0; cases c0
  have n2 : nb ≠ pm := fun e => by rw [e, hP.own.no_cell] at c0; cases c0
  have n3 : nb ≠ m := fun e => by rw [e, hq.no_cell] at c0; cases c0
  have n4 : m ≠ pb := fun e => by have := hq.no_cell 0; rw [e, hP.c0] at this; cases this
  have n5 := hP.ne
  have ltp := hP.lt
  refine ⟨fun k => if k = nb then .base else if k = pb ∨ k = pm then .pool else if k = m then .wmap else .no, pb, pm, m, fun _ => false, fun _ => 0, fun _ => 0, fun k => ?_, ⟨c0, c1, f0, if_pos rfl, ?_, ?_, ?_, hP, fun c hc => (by cases hc), fun k hk => ?_⟩, hq, fun _ _ => rfl, fun c hc => (by cases hc)⟩
  · show _ ↔ (if k = nb then Tg.base else if k = pb ∨ k = pm then .pool else if k = m then .wmap else .no) ≠ .no
    by_cases e1 : k = nb
    · rw [if_pos e1]; exact ⟨fun _ e => (by cases e), fun _ => .inl e1⟩
    · rw [if_neg e1]
      by_cases e2 : k = pb ∨ k = pm
      · rw [if_pos e2]; exact ⟨fun _ e => (by cases e), fun _ => .inr (e2.elim .inl (fun e => .inr (.inl e)))⟩
      · rw [if_neg e2]
        by_cases e3 : k = m
        · rw [if_pos e3]; exact ⟨fun _ e => (by cases e), fun _ => .inr (.inr (.inr e3))⟩
        · rw [if_neg e3]; exact ⟨fun g => by omega, fun g => absurd rfl g⟩
  · show (if pb = nb then Tg.base else if pb = pb ∨ pb = pm then .pool else if pb = m then .wmap else .no) = .pool
    rw [if_neg n1.symm, if_pos (.inl rfl)]
  · show (if pm = nb then Tg.base else if pm = pb ∨ pm = pm then .pool else if pm = m then .wmap else .no) = .pool
    rw [if_neg n2.symm, if_pos (.inr rfl)]
  · show (if m = nb then Tg.base else if m = pb ∨ m = pm then .pool else if m = m then .wmap else .no) = .wmap
    rw [if_neg n3.symm, if_neg (by omega), if_pos rfl]
  · have lb := cell_lt (a := ⟨nb, 0, none⟩) c0
    have lm := hq.lt
    have hk' : (if k = nb then Tg.base else if k = pb ∨ k = pm then .pool else if k = m then .wmap else .no) ≠ .no := hk
    by_cases e1 : k = nb
    · rw [e1]; exact lb
    · rw [if_neg e1] at hk'
      by_cases e2 : k = pb ∨ k = pm
      · omega
      · rw [if_neg e2] at hk'
        by_cases e3 : k = m
        · rw [e3]; exact lm
        · rw [if_neg e3] at hk'; exact absurd rfl hk'
theorem PSk.registered {F : Nat → Prop} {G : Int → Nat → Prop} {bb : Int → Nat} {w w3 : World} {sb g k : Nat} {S : Sk} (hS : S.Ok) (hf : ∀ k, F k ↔ k = sb ∨ ∃ b, G b k) (h : PSkAt G bb w sb S (fun _ => g)) (hk : k < 3) (hr : S.R k = false) {G' : Nat → Prop} {nb : Nat}
    (hB3 : Below w.heap.size w w3) (hB : Bkr G' w3 nb e0 (fun _ => e0) 0) (hG : ∀ k, G' k → w.heap.size ≤ k) (hc : S.regC k = 0) :
    ∃ F', PSk F' (w3.setCell ⟨sb, k, none⟩ (.pointer (some ⟨nb, 0, none⟩))) sb (S.reg k) (g + 4) ∧ Moved F F' w (w3.setCell ⟨sb, k, none⟩ (.pointer (some ⟨nb, 0, none⟩))) := by
  have hs := h.base
  have h3 := h.below hB3
  have K : KeptP (fun i => i = sb) w3 (w3.setCell ⟨sb, k, none⟩ (.pointer (some ⟨nb, 0, none⟩))) := (KeptP.refl (fun i => i = sb) w3).setCell (p := ⟨sb, k, none⟩) rfl _
  have ec : S.reg k = ⟨set1 S.R k true, S.P, S.K, S.W⟩ := if_pos hc
  have pe : S.P k = e0 := hS.pout k hr
  have we : S.W k = fun _ => e0 := funext fun c => hS.wout k c (fun g => by rw [(hS.kin _ g).1] at hr; cases hr)
  rw [ec]
  refine ⟨owns (set1 G k G') sb, ⟨set1 G k G', set1 bb k nb, fun _ => Iff.rfl, fun i hi => ?_, fun i hi => ?_, fun i hi => ?_, fun i hi j gj => ?_, fun i j x gi gj => ?_, fun i x gx => ?_⟩, ⟨?_, fun x hx gx => (hf x).2 ?_⟩⟩
  · by_cases e : i = k
    · subst e
      rw [World.cell?_setCell_same _ _ _ (h3.c i hi)]
      show _ = some (Value.pointer (if set1 S.R i true i = true then some ⟨set1 bb i nb i, 0, none⟩ else none))
      rw [set1_same, set1_same, if_pos rfl]
    · rw [World.cell?_setCell_other _ _ _ _ (by intro h; cases h; exact e rfl)]
      have ei : (i : Int) ≠ k := by omega
      show _ = some (Value.pointer (if set1 S.R k true i = true then some ⟨set1 bb k nb i, 0, none⟩ else none))
      rw [set1_other _ _ _ _ ei, set1_other _ _ _ _ ei]
      exact h3.c i hi
  · rw [World.frozen?_setCell]; exact h3.f i hi
  · by_cases e : i = k
    · subst e
      rw [set1_same, set1_same]
      show Bkr G' _ nb (S.P k) (S.W k) (g + 4)
      rw [pe, we]
      exact (hB.keptP K (fun j ej gj => by have := hG j gj; omega)).more (by omega)
    · rw [set1_other _ _ _ _ e, set1_other _ _ _ _ e]
      have hi' : S.R i = true := by have h1 : set1 S.R k true i = true := hi; rw [set1_other _ _ _ _ e] at h1; exact h1
      exact ((h3.bk i hi').keptP K (fun j ej gj => h.nsb i j gj ej)).more (by omega)
  · have h1 : set1 S.R k true i = false := hi
    have e : i ≠ k := fun e => by rw [e, set1_same] at h1; cases h1
    rw [set1_other _ _ _ _ e] at h1 gj
    exact h.out i h1 j gj
  · by_cases e : i = k <;> by_cases e2 : j = k
    · rw [e, e2]
    · rw [e, set1_same] at gi
      rw [set1_other _ _ _ _ e2] at gj
      have := hG x gi
      have := h.lt gj
      omega
    · rw [e2, set1_same] at gj
      rw [set1_other _ _ _ _ e] at gi
      have := hG x gj
      have := h.lt gi
      omega
    · rw [set1_other _ _ _ _ e] at gi
      rw [set1_other _ _ _ _ e2] at gj
      exact h.apart i j x gi gj
  · by_cases e : i = k
    · rw [e, set1_same] at gx
      have := hG x gx
      omega
    · rw [set1_other _ _ _ _ e] at gx
      exact h.nsb i x gx
  · exact (KeptP.of_below hB3).trans K (fun i _ e => (hf i).2 (.inl e))
  · rcases gx with e | ⟨i, gi⟩
    · exact .inl e
    · by_cases e : i = k
      · rw [e, set1_same] at gi
        have := hG x gi
        omega
      · rw [set1_other _ _ _ _ e] at gi
        exact .inr ⟨i, gi⟩
theorem own_fresh (w : World) : OwnQ (w.alloc (.map #[] 0)) w.heap.size (fun _ => false) (fun _ => 0) 0 := ⟨0, .map [], World.ownsMap_made w _ _ _, Nat.le_refl _, fun _ => rfl, fun _ h => (by cases h)⟩
def ActEnd (F : Nat → Prop) (sb g : Nat) (S' : Sk) (c : Int) (A : Nat → Addr) (w : World) (e : Ending) (w' : World) : Prop := ∃ ev F', e = .returned ev ∧ ErrIs A ev c ∧ PSk F' w' sb S' (g + 4) ∧ Moved F F' w w'
theorem ActEnd.of {F : Nat → Prop} {sb g : Nat} {S' : Sk} {c : Int} {A : Nat → Addr} {w w' : World} {ev : Value} (hE : ErrIs A ev c) (h : ∃ F', PSk F' w' sb S' (g + 4) ∧ Moved F F' w w') : ActEnd F sb g S' c A w (.returned ev) w' := by
  obtain ⟨F', h1, h2⟩ := h
  exact ⟨ev, F', rfl, hE, h1, h2⟩
theorem slot_kept {w w' : World} {a : Addr} {v : Value} (hB : Below w.heap.size w w') (hc : w.cell? a = some v) (hf : w.frozen? a = false) : w'.cell? a = some v ∧ w'.frozen? a = false := by
  refine ⟨old_cell hB hc, ?_⟩
  rw [hB.frozen (cell_lt hc)]; exact hf
theorem slot_alloc {w : World} {a : Addr} {v : Value} (hc : w.cell? a = some v) (hf : w.frozen? a = false) (o : Obj) : (w.alloc o).cell? a = some v ∧ (w.alloc o).frozen? a = false := slot_kept ((Below.refl _ _).alloc (Nat.le_refl _) _) hc hf
theorem new_baker1 {F : Nat → Prop} {G : Int → Nat → Prop} {bb : Int → Nat} {w w2 : World} {sb g k pb pm : Nat} {S : Sk} (hS : S.Ok) (hf : ∀ k, F k ↔ k = sb ∨ ∃ b, G b k) (h : PSkAt G bb w sb S (fun _ => g)) (hk : k < 3) (hr : S.R k = false) (hc : S.regC k = 0) (hB : Below w.heap.size w w2)
    (hpb : w.heap.size ≤ pb) (hpm : w.heap.size ≤ pm) (hP : PoolAt w2 pb pm ⟨0, fun _ => 0⟩ 0) (t : TypeId) :
    ∃ F', PSk F' (((w2.alloc (.map #[] 0)).alloc (.cells #[.pointer (some ⟨pb, 0, none⟩), .map (some w2.heap.size)] t)).setCell ⟨sb, k, none⟩ (.pointer (some ⟨w2.heap.size + 1, 0, none⟩))) sb (S.reg k) (g + 4) ∧
      Moved F F' w (((w2.alloc (.map #[] 0)).alloc (.cells #[.pointer (some ⟨pb, 0, none⟩), .map (some w2.heap.size)] t)).setCell ⟨sb, k, none⟩ (.pointer (some ⟨w2.heap.size + 1, 0, none⟩))) := by
  have hs := hB.size
  have lt := hP.lt
  have e1 : (w2.alloc (.map #[] 0)).heap.size = w2.heap.size + 1 := by simp
  have B1 : Below w2.heap.size w2 (w2.alloc (.map #[] 0)) := (Below.refl _ _).alloc (Nat.le_refl _) _
  have B2 : Below (w2.alloc (.map #[] 0)).heap.size (w2.alloc (.map #[] 0)) ((w2.alloc (.map #[] 0)).alloc (.cells #[.pointer (some ⟨pb, 0, none⟩), .map (some w2.heap.size)] t)) := (Below.refl _ _).alloc (Nat.le_refl _) _
  have B3 : Below w.heap.size w ((w2.alloc (.map #[] 0)).alloc (.cells #[.pointer (some ⟨pb, 0, none⟩), .map (some w2.heap.size)] t)) := (hB.alloc hs _).alloc (by omega) _
  have hP3 := (hP.keptP (KeptP.of_below (F := fun _ => False) B1) (fun g => g) (fun g => g)).keptP (KeptP.of_below (F := fun _ => False) B2) (fun g => g) (fun g => g)
  have hq3 := (own_fresh w2).of_block (B2.block w2.heap.size (by omega))
  refine PSk.registered hS hf h hk hr B3 (bkr_fresh (pm := pm) (cell_new _ _ _ _ _ _ e1.symm rfl) (cell_new _ _ _ _ _ _ e1.symm rfl) (World.frozen?_alloc_at _ _ _ _ e1.symm) hP3 hq3 (by omega)) (fun i hi => ?_) hc
  omega
theorem new_baker2 {F : Nat → Prop} {G : Int → Nat → Prop} {bb : Int → Nat} {w w2 : World} {sb g k pb pm : Nat} {S : Sk} (hS : S.Ok) (hf : ∀ k, F k ↔ k = sb ∨ ∃ b, G b k) (h : PSkAt G bb w sb S (fun _ => g)) (hk : k < 3) (hr : S.R k = false) (hc : S.regC k = 0) (hB : Below (w.alloc (.map #[] 0)).heap.size (w.alloc (.map #[] 0)) w2)
    (hpb : (w.alloc (.map #[] 0)).heap.size ≤ pb) (hpm : (w.alloc (.map #[] 0)).heap.size ≤ pm) (hP : PoolAt w2 pb pm ⟨0, fun _ => 0⟩ 0) (t : TypeId) :
    ∃ F', PSk F' ((w2.alloc (.cells #[.pointer (some ⟨pb, 0, none⟩), .map (some w.heap.size)] t)).setCell ⟨sb, k, none⟩ (.pointer (some ⟨w2.heap.size, 0, none⟩))) sb (S.reg k) (g + 4) ∧
      Moved F F' w ((w2.alloc (.cells #[.pointer (some ⟨pb, 0, none⟩), .map (some w.heap.size)] t)).setCell ⟨sb, k, none⟩ (.pointer (some ⟨w2.heap.size, 0, none⟩))) := by
  have hs := hB.size
  have lt := hP.lt
  have e1 : (w.alloc (.map #[] 0)).heap.size = w.heap.size + 1 := by simp
  have B0 : Below w.heap.size w (w.alloc (.map #[] 0)) := (Below.refl _ _).alloc (Nat.le_refl _) _
  have B1 : Below w.heap.size w w2 := B0.trans (hB.mono (by omega))
  have B2 : Below w2.heap.size w2 (w2.alloc (.cells #[.pointer (some ⟨pb, 0, none⟩), .map (some w.heap.size)] t)) := (Below.refl _ _).alloc (Nat.le_refl _) _
  have B3 : Below w.heap.size w (w2.alloc (.cells #[.pointer (some ⟨pb, 0, none⟩), .map (some w.heap.size)] t)) := B1.alloc B1.size _
  have hP3 := hP.keptP (KeptP.of_below (F := fun _ => False) B2) (fun g => g) (fun g => g)
  have hq3 := ((own_fresh w).of_block (hB.block w.heap.size (by omega))).of_block (B2.block w.heap.size (by omega))
  refine PSk.registered hS hf h hk hr B3 (bkr_fresh (pm := pm) (cell_new _ _ _ _ _ _ rfl rfl) (cell_new _ _ _ _ _ _ rfl rfl) (World.frozen?_alloc_at _ _ _ _ rfl) hP3 hq3 (by omega)) (fun i hi => ?_) hc
  omega
set_option maxRecDepth 100000 in
set_option maxHeartbeats 2000000 in
theorem ps_register (F : Nat → Prop) (sb : Nat) (S : Sk) (hS : S.Ok) (g : Nat) (_hg : g ≤ 900000) (b : Int) (A : Nat → Addr) (w : World) (hL : StkLaid w A) (h : PSk F w sb S g) :
    Calls Tryz.prog 200 #[.pointer (some ⟨sb, 0, none⟩), .int .i64 b] w (ActEnd F sb g (S.reg b) (S.regC b) A w) := by
  obtain ⟨G, bb, hf, h⟩ := h
  have I := is_at G bb sb S hS _ b w h
  have v1 := hL.v1
  have v4 := hL.v4
  by_cases hb : Bk b
  · have B := baker_yes b hb.1 hb.2
    cases hr : S.R b with
    | true =>
      have hc : S.regC b = 5 := by unfold Sk.regC; rw [if_neg (fun g => g hb), hr]; rfl
      have HC := hide hc
      have HE := hide (show S.reg b = S from if_neg (by omega))
      rw [hr] at I
      clear hr hb hc
      go_enter Tryz.func200, Tryz.ntmps200
      go_wp2_with (first | (go_at_call 209; refine (B _).mono ?_; rintro e w' ⟨rfl, rfl⟩) | (go_at_call 246; refine I.mono ?_; rintro e w' ⟨rfl, rfl⟩))
      go_ret
      exact ActEnd.of (ErrIs.is 4 (by omega) HC.out) (by rw [HE.out]; exact PSk.same hf h (Below.refl _ _))
    | false =>
      have hc : S.regC b = 0 := by unfold Sk.regC; rw [if_neg (fun g => g hb), hr]; rfl
      rw [hr] at I
      obtain ⟨b0, b3⟩ := hb
      obtain ⟨k, rfl⟩ : ∃ k : Nat, b = k := ⟨b.toNat, by omega⟩
      have hk : k < 3 := by omega
      have hc0 := h.c k hk
      rw [hr] at hc0
      simp only [Bool.false_eq_true, if_false] at hc0
      have f0 := h.f k hk
      have HC := hide hc
      have HR := hide hr
      have hmm := @run_makeMap Tryz.prog
      have hsz := h.base
      clear hr hc
      go_enter Tryz.func200, Tryz.ntmps200
      go_wp2_with (first | (go_at_call 209; refine (B _).mono ?_; rintro e w' ⟨rfl, rfl⟩) | (go_at_call 246; refine I.mono ?_; rintro e w' ⟨rfl, rfl⟩))
      go_region_held3 (fun _ => True) (exact trivial)
        ((go_at_call 217; refine (prog_new _).mono ?_; rintro e w2 ⟨pb, pm, rfl, hpb, hpm, hP2, hB2⟩; have d0 : w2.cell? ⟨sb, k, none⟩ = some (.pointer none) ∧ w2.frozen? ⟨sb, k, none⟩ = false := (by first | exact slot_kept (w := w') (below_of_drew hB2) hc0 f0 | exact slot_kept (w := w'.alloc (.map #[] 0)) (below_of_drew hB2) (slot_alloc hc0 f0 _).1 (slot_alloc hc0 f0 _).2); have d1 : ∀ o, (w2.alloc o).cell? ⟨sb, k, none⟩ = some (.pointer none) := (fun o => (slot_alloc d0.1 d0.2 o).1); have d2 : ∀ o, (w2.alloc o).frozen? ⟨sb, k, none⟩ = false := (fun o => (slot_alloc d0.1 d0.2 o).2); have d3 : ∀ o o', ((w2.alloc o).alloc o').cell? ⟨sb, k, none⟩ = some (.pointer none) := (fun o o' => (slot_alloc (d1 o) (d2 o) o').1); have d4 : ∀ o o', ((w2.alloc o).alloc o').frozen? ⟨sb, k, none⟩ = false := (fun o o' => (slot_alloc (d1 o) (d2 o) o').2)))
      · go_wp2
        go_ret
        exact ActEnd.of (ErrIs.no HC.out) (new_baker1 hS hf h hk HR.out HC.out (below_of_drew hB2) hpb hpm hP2 _)
      · go_wp2
        go_ret
        exact ActEnd.of (ErrIs.no HC.out) (new_baker2 hS hf h hk HR.out HC.out (below_of_drew hB2) hpb hpm hP2 _)
  · have B := baker_no b hb
    have hc : S.regC b = 2 := if_pos hb
    have HC := hide hc
    have HE := hide (show S.reg b = S from if_neg (by omega))
    clear hb hc
    go_enter Tryz.func200, Tryz.ntmps200
    go_wp2_with (go_at_call 209; refine (B _).mono ?_; rintro e w' ⟨rfl, rfl⟩)
    go_ret
    exact ActEnd.of (ErrIs.is 1 (by omega) HC.out) (by rw [HE.out]; exact PSk.same hf h (Below.refl _ _))

/-! acts on a baker's pool -/
set_option maxRecDepth 100000 in
theorem ps_join (F : Nat → Prop) (sb : Nat) (S : Sk) (hS : S.Ok) (g : Nat) (hg : g ≤ 900000) (o b n : Int) (wo : (Lit.int .i64 o).wf = true) (A : Nat → Addr) (w : World) (hL : StkLaid w A) (h : PSk F w sb S g) :
    Calls Tryz.prog 205 #[.pointer (some ⟨sb, 0, none⟩), .int .i64 o, .int .i64 b, .int .i64 n] w (ActEnd F sb g (S.join o b n) (S.joinC o b n) A w) := by
  obtain ⟨G, bb, hf, h⟩ := h
  cases hr : S.R b with
  | true =>
    have C := find_yes G bb sb S hS _ b hr w h
    obtain ⟨tag, p, pm, wm, H, q, qm, hF, hb, hq, h0, hcy⟩ := h.bk b hr
    have c0 := hb.c0
    have T := prog_join p pm _ _ (hS.pok b) o n wo (by omega) A true w hL.pool hb.pool
    have e1 : Hid (S.joinC o b n = (S.P b).joinC o n) := if_pos hr
    have e2 : Hid (S.join o b n = ⟨S.R, set1 S.P b ((S.P b).join o n), S.K, S.W⟩) := if_pos hr
    have HR := hide hr
    have HB := hide hb
    clear hr hb
    go_enter Tryz.func205, Tryz.ntmps205
    go_wp2_with (go_at_call 139; refine C.mono ?_; rintro e w' ⟨rfl, rfl⟩)
    refine T.mono ?_
    rintro e w1 ⟨ev, rfl, hE, hP1, hK1⟩
    go_wp2
    go_ret
    obtain ⟨hB1, hM1⟩ := Bkr.poolTurned hF HB.out hq h0 hcy hP1 hK1
    rw [e1.out, e2.out]
    exact ActEnd.of hE (PSk.turned hf h HR.out hB1 hM1 (fun _ => rfl) (set1_same ..) rfl (fun i hi => set1_other _ _ _ _ hi) (fun _ _ => rfl))
  | false =>
    have C := find_no G bb sb S _ b hr w h
    have v3 := hL.v3
    have e1 : Hid (S.joinC o b n = 4) := if_neg (by rw [hr]; decide)
    have e2 : Hid (S.join o b n = S) := if_neg (by rw [hr]; decide)
    clear hr
    go_enter Tryz.func205, Tryz.ntmps205
    go_wp2_with (go_at_call 139; refine C.mono ?_; rintro e w' ⟨rfl, rfl⟩)
    go_ret
    exact ActEnd.of (ErrIs.is 3 (by omega) e1.out) (by rw [e2.out]; exact PSk.same hf h (Below.refl _ _))
set_option maxRecDepth 100000 in
theorem ps_add (F : Nat → Prop) (sb : Nat) (S : Sk) (hS : S.Ok) (g : Nat) (_hg : g ≤ 900000) (b n : Int) (A : Nat → Addr) (w : World) (hL : StkLaid w A) (h : PSk F w sb S g) :
    Calls Tryz.prog 256 #[.pointer (some ⟨sb, 0, none⟩), .int .i64 b, .int .i64 n] w (ActEnd F sb g (S.add b n) (S.addC b n) A w) := by
  obtain ⟨G, bb, hf, h⟩ := h
  cases hr : S.R b with
  | true =>
    have C := find_yes G bb sb S hS _ b hr w h
    obtain ⟨tag, p, pm, wm, H, q, qm, hF, hb, hq, h0, hcy⟩ := h.bk b hr
    have c0 := hb.c0
    have T := prog_add p pm _ _ (hS.pok b) n A true w hL.pool hb.pool
    have e1 : Hid (S.addC b n = (S.P b).addC n) := if_pos hr
    have e2 : Hid (S.add b n = ⟨S.R, set1 S.P b ((S.P b).add n), S.K, S.W⟩) := if_pos hr
    have HR := hide hr
    have HB := hide hb
    clear hr hb
    go_enter Tryz.func256, Tryz.ntmps256
    go_wp2_with (go_at_call 139; refine C.mono ?_; rintro e w' ⟨rfl, rfl⟩)
    refine T.mono ?_
    rintro e w1 ⟨ev, rfl, hE, hP1, hK1⟩
    go_wp2
    go_ret
    obtain ⟨hB1, hM1⟩ := Bkr.poolTurned hF HB.out hq h0 hcy hP1 hK1
    rw [e1.out, e2.out]
    exact ActEnd.of hE (PSk.turned hf h HR.out hB1 hM1 (fun _ => rfl) (set1_same ..) rfl (fun i hi => set1_other _ _ _ _ hi) (fun _ _ => rfl))
  | false =>
    have C := find_no G bb sb S _ b hr w h
    have v3 := hL.v3
    have e1 : Hid (S.addC b n = 4) := if_neg (by rw [hr]; decide)
    have e2 : Hid (S.add b n = S) := if_neg (by rw [hr]; decide)
    clear hr
    go_enter Tryz.func256, Tryz.ntmps256
    go_wp2_with (go_at_call 139; refine C.mono ?_; rintro e w' ⟨rfl, rfl⟩)
    go_ret
    exact ActEnd.of (ErrIs.is 3 (by omega) e1.out) (by rw [e2.out]; exact PSk.same hf h (Below.refl _ _))
theorem set2_row {α : Type} (f : Int → Int → α) (b c : Int) (v : α) : set2 f b c v b = set1 (f b) c v := by
  funext j
  unfold set2 set1
  by_cases e : j = c
  · rw [if_pos ⟨rfl, e⟩, if_pos e]
  · rw [if_neg (fun g => e g.2), if_neg e]
theorem set2_rows {α : Type} (f : Int → Int → α) (b c : Int) (v : α) (i : Int) (h : i ≠ b) : set2 f b c v i = f i := funext fun _ => if_neg fun g => h g.1
set_option maxRecDepth 100000 in
theorem ps_leave (F : Nat → Prop) (sb : Nat) (S : Sk) (hS : S.Ok) (g : Nat) (hg : g ≤ 900000) (o b n c : Int) (wo : (Lit.int .i64 o).wf = true) (_wc : (Lit.int .i64 c).wf = true) (A : Nat → Addr) (w : World) (hL : StkLaid w A) (h : PSk F w sb S g) :
    Calls Tryz.prog 130 #[.pointer (some ⟨sb, 0, none⟩), .int .i64 o, .int .i64 b, .int .i64 n, .int .i64 c] w (ActEnd F sb g (S.leave o b n c) (S.leaveC o b n c) A w) := by
  obtain ⟨G, bb, hf, h⟩ := h
  have v1 := hL.v1
  have v3 := hL.v3
  cases hr : S.R b with
  | true =>
    have C := find_yes G bb sb S hS _ b hr w h
    by_cases hc : Cy c
    · have D := cycle_yes c hc.1 hc.2
      have T := bk_unstake (G b) (bb b) g (S.P b) (S.W b) (hS.pok b) (hS.wok b) hg o n c wo hc A w hL.pool (h.bk b hr)
      have e1 : Hid (S.leaveC o b n c = ustC (S.P b) (S.W b) o n c) := (if_pos hr).trans (if_neg (fun g => g hc))
      have HR := hide hr
      clear hr hc
      go_enter Tryz.func130, Tryz.ntmps130
      go_wp2_with (first | (go_at_call 139; refine C.mono ?_; rintro e w' ⟨rfl, rfl⟩) | (go_at_call 207; refine (D _).mono ?_; rintro e w' ⟨rfl, rfl⟩))
      refine T.mono ?_
      rintro e w1 ⟨ev, G', rfl, hE, hB1, hM1⟩
      go_wp2
      go_ret
      rw [e1.out]
      refine ActEnd.of hE ?_
      by_cases hz : ustC (S.P b) (S.W b) o n c = 0
      · rw [if_pos hz] at hB1
        have e2 : S.leave o b n c = ⟨S.R, set1 S.P b ((S.P b).take o n), keyed2 S.K b c, set2 S.W b c ((S.W b c).join o n)⟩ := if_pos (e1.out.trans hz)
        rw [e2]
        exact PSk.turned hf h HR.out hB1 hM1 (fun _ => rfl) (set1_same ..) (set2_row ..) (fun i hi => set1_other _ _ _ _ hi) (fun i hi => set2_rows _ _ _ _ _ hi)
      · rw [if_neg hz] at hB1
        have e2 : S.leave o b n c = S := if_neg (fun e => hz (e1.out.symm.trans e))
        rw [e2]
        exact PSk.turned hf h HR.out hB1 hM1 (fun _ => rfl) rfl rfl (fun _ _ => rfl) (fun _ _ => rfl)
    · have D := cycle_no c hc
      have e1 : Hid (S.leaveC o b n c = 2) := (if_pos hr).trans (if_pos hc)
      have e2 : Hid (S.leave o b n c = S) := if_neg (by rw [e1.out]; decide)
      clear hr hc
      go_enter Tryz.func130, Tryz.ntmps130
      go_wp2_with (first | (go_at_call 139; refine C.mono ?_; rintro e w' ⟨rfl, rfl⟩) | (go_at_call 207; refine (D _).mono ?_; rintro e w' ⟨rfl, rfl⟩))
      go_ret
      exact ActEnd.of (ErrIs.is 1 (by omega) e1.out) (by rw [e2.out]; exact PSk.same hf h (Below.refl _ _))
  | false =>
    have C := find_no G bb sb S _ b hr w h
    have e1 : Hid (S.leaveC o b n c = 4) := if_neg (by rw [hr]; decide)
    have e2 : Hid (S.leave o b n c = S) := if_neg (by rw [e1.out]; decide)
    clear hr
    go_enter Tryz.func130, Tryz.ntmps130
    go_wp2_with (go_at_call 139; refine C.mono ?_; rintro e w' ⟨rfl, rfl⟩)
    go_ret
    exact ActEnd.of (ErrIs.is 3 (by omega) e1.out) (by rw [e2.out]; exact PSk.same hf h (Below.refl _ _))
def ActEndN (F : Nat → Prop) (sb g : Nat) (S' : Sk) (n c : Int) (A : Nat → Addr) (w : World) (e : Ending) (w' : World) : Prop := ∃ ev F', e = .returned (.tuple #[.int .i64 n, ev]) ∧ ErrIs A ev c ∧ PSk F' w' sb S' (g + 4) ∧ Moved F F' w w'
theorem ActEndN.of {F : Nat → Prop} {sb g : Nat} {S' : Sk} {n n' c : Int} {A : Nat → Addr} {w w' : World} {ev : Value} (hn : n' = n) (hE : ErrIs A ev c) (h : ∃ F', PSk F' w' sb S' (g + 4) ∧ Moved F F' w w') : ActEndN F sb g S' n c A w (.returned (.tuple #[.int .i64 n', ev])) w' := by
  obtain ⟨F', h1, h2⟩ := h
  exact ⟨ev, F', by rw [hn], hE, h1, h2⟩
/-! slashing writes no map -/
set_option maxRecDepth 100000 in
set_option maxHeartbeats 1000000 in
theorem prog_slash0 (b m g : Nat) (x : St) (hx : x.Ok) (p : Int) (A : Nat → Addr) (sh : Bool) (w : World) (hL : PoolLaid w A sh) (h : PoolAt w b m x g) :
    Calls Tryz.prog 306 #[.pointer (some ⟨b, 0, none⟩), .int .i64 p] w fun e w' => ∃ ev, e = .returned (.tuple #[.int .i64 (x.slashN p), ev]) ∧ ErrIs A ev (x.slashC p) ∧ PoolAt w' b m (x.slash p) g ∧ Kept [b, m] w w' := by
  have c0 := h.c0
  have f0 := h.f0
  have t0 := hx.t0
  have t1 := hx.t1
  have v1 := hL.v1
  by_cases hp : 0 ≤ p ∧ p ≤ 100
  · have e1 := hide (St.slash_yes (x := x) hp)
    have bd := hx.slashN_bd p
    rw [e1.out.2.1] at bd
    have P := down_yes x.T p 100 ⟨t0, t1, hp.1, by omega, by omega, by omega⟩ (by omega)
    obtain ⟨p0, p1⟩ := hp
    go_enter Tryz.func306, Tryz.ntmps306
    go_wp2_with (go_at_call 216; refine (P _).mono ?_; rintro e w' ⟨rfl, n, rfl⟩)
    go_ret2
    refine ⟨.nilIface, ret_pair e1.out.2.1.symm _, ErrIs.no e1.out.1, by rw [e1.out.2.2]; exact (h.drewN n).setT _, ((Kept.refl _ _).drewN n).setCell (by simp) _⟩
  · have e1 := hide (St.slash_no (x := x) hp)
    by_cases p0 : 0 ≤ p
    · have p1 : 100 < p := by omega
      clear hp
      go_enter Tryz.func306, Tryz.ntmps306
      go_wp2
      go_quiet (fail)
      go_wp2
      go_ret2
      exact ⟨sent (A 1), ret_pair e1.out.2.1.symm _, ErrIs.is 1 (by omega) e1.out.1, h.stayN e1.out.2.2 (Nat.le_refl _) _⟩
    · clear hp
      go_enter Tryz.func306, Tryz.ntmps306
      go_wp2
      go_quiet (fail)
      go_wp2
      go_ret2
      exact ⟨sent (A 1), ret_pair e1.out.2.1.symm _, ErrIs.is 1 (by omega) e1.out.1, h.stayN e1.out.2.2 (Nat.le_refl _) _⟩
theorem slash_fold (S : Sk) (b f p : Int) : (sumK S.K fun b' c' => if b' = b then slN (S.W b) f p b' c' else 0) = sumK S.K fun b' c' => if b' = b ∧ f ≤ c' then (S.W b' c').slashN p else 0 := by
  refine sumK_congr _ fun k _ => ?_
  by_cases e : k.1 = b
  · rw [if_pos e]
    show (if f ≤ k.2 then (S.W b k.2).slashN p else 0) = _
    by_cases e2 : f ≤ k.2
    · rw [if_pos e2, if_pos ⟨e, e2⟩, e]
    · rw [if_neg e2, if_neg (fun g => e2 g.2)]
  · rw [if_neg e, if_neg (fun g => e g.1)]
set_option maxRecDepth 100000 in
set_option maxHeartbeats 1000000 in
theorem ps_slash (F : Nat → Prop) (sb : Nat) (S : Sk) (hS : S.Ok) (hK : S.K.length ≤ 900) (g : Nat) (hg : g ≤ 900000) (b f p : Int) (wf : (Lit.int .i64 f).wf = true) (A : Nat → Addr) (w : World) (hL : StkLaid w A) (h : PSk F w sb S g) :
    Calls Tryz.prog 288 #[.pointer (some ⟨sb, 0, none⟩), .int .i64 b, .int .i64 f, .int .i64 p] w (ActEndN F sb g (S.slash b f p) (S.slashN b f p) (S.slashC b p) A w) := by
  obtain ⟨G, bb, hf, h⟩ := h
  have v3 := hL.v3
  cases hr : S.R b with
  | true =>
    have C := find_yes G bb sb S hS _ b hr w h
    obtain ⟨tag, q0, qm0, wm, H, q, qm, hF, hb, hq, h0, hcy⟩ := h.bk b hr
    have c0 := hb.c0
    have T := prog_slash0 q0 qm0 g (S.P b) (hS.pok b) p A true w hL.pool hb.pool
    by_cases hp : 0 ≤ p ∧ p ≤ 100
    · have e1 : Hid (S.slashC b p = 0) := (if_pos hr).trans (if_pos hp)
      have e2 : Hid (S.slashN b f p = (S.P b).slashN p + sumK S.K (fun b' c' => if b' = b ∧ f ≤ c' then (S.W b' c').slashN p else 0)) := if_pos e1.out
      have e3 : Hid (S.slash b f p = ⟨S.R, set1 S.P b ((S.P b).slash p), S.K, fun b' c' => if b' = b ∧ f ≤ c' then (S.W b' c').slash p else S.W b' c'⟩) := if_pos e1.out
      have EC := hide (St.slash_yes (x := S.P b) hp).1
      have nb := (hS.pok b).slashN_bd p
      have nt := (hS.pok b).t1
      have HR := hide hr
      have HB := hide hb
      have sN : ∀ c : Int, 0 ≤ (S.W b c).slashN p ∧ (S.W b c).slashN p ≤ 1125899906842624 := fun c => by
        have := (hS.wok b c).slashN_bd p
        have := (hS.wok b c).t1
        omega
      have s0 : 0 ≤ (sumK S.K fun b' c' => if b' = b then slN (S.W b) f p b' c' else 0) := sumK_nonneg S.K fun k _ => by
        show 0 ≤ (if k.1 = b then (if f ≤ k.2 then (S.W b k.2).slashN p else 0) else 0)
        have := sN k.2
        split
        · split <;> omega
        · omega
      have s1 : (sumK S.K fun b' c' => if b' = b then slN (S.W b) f p b' c' else 0) ≤ S.K.length * 1125899906842624 := sumK_le S.K fun k _ => by
        show (if k.1 = b then (if f ≤ k.2 then (S.W b k.2).slashN p else 0) else 0) ≤ 1125899906842624
        have := sN k.2
        split
        · split <;> omega
        · omega
      have s2 : (sumK S.K fun b' c' => if b' = b then slN (S.W b) f p b' c' else 0) ≤ 1013309916158361600 := by omega
      have hn2 : (S.P b).slashN p ≤ 1125899906842624 := by omega
      have hn0 := nb.1
      have SF := hide (slash_fold S b f p)
      clear hr hb s1 nb nt sN
      go_enter Tryz.func288, Tryz.ntmps288
      go_wp2_with (go_at_call 139; refine C.mono ?_; rintro e w' ⟨rfl, rfl⟩)
      refine T.mono ?_
      rintro e w1 ⟨ev, rfl, hE, hP1, hK1⟩
      obtain rfl := hE.nil EC.out
      obtain ⟨hB1, hM1⟩ := Bkr.poolTurned0 hF HB.out hq h0 hcy hP1 hK1
      have L1 := hL.pool.kept HB.out.pool.apart hK1
      go_wp2_with fail
      refine (bk_slash (G b) (bb b) g _ (S.W b) (hS.wok b) hg f p hp wf S.K hS.knd hK b (fun c hc => hS.wout b c hc) A w1 L1 hB1).mono ?_
      rintro e w2 ⟨rfl, hB2, hM2⟩
      rw [← SF.out] at e2
      generalize (sumK S.K fun b' c' => if b' = b then slN (S.W b) f p b' c' else 0) = z at *
      go_wp2
      go_ret2
      refine ActEndN.of e2.out.symm (ErrIs.no e1.out) ?_
      rw [e3.out]
      refine PSk.turned hf h HR.out hB2 (hM1.trans hM2) (fun _ => rfl) (set1_same ..) ?_ (fun i hi => set1_other _ _ _ _ hi) (fun i hi => ?_)
      · funext c
        show (if b = b ∧ f ≤ c then (S.W b c).slash p else S.W b c) = (if f ≤ c then (S.W b c).slash p else S.W b c)
        by_cases e : f ≤ c
        · rw [if_pos ⟨rfl, e⟩, if_pos e]
        · rw [if_neg (fun g => e g.2), if_neg e]
      · funext c
        exact if_neg (fun g => hi g.1)
    · have e1 : Hid (S.slashC b p = 2) := (if_pos hr).trans (if_neg hp)
      have e2 : Hid (S.slashN b f p = 0) := if_neg (by rw [e1.out]; decide)
      have e3 : Hid (S.slash b f p = S) := if_neg (by rw [e1.out]; decide)
      have ES := hide (St.slash_no (x := S.P b) hp)
      have HR := hide hr
      have HB := hide hb
      clear hr hb hp
      go_enter Tryz.func288, Tryz.ntmps288
      go_wp2_with (go_at_call 139; refine C.mono ?_; rintro e w' ⟨rfl, rfl⟩)
      refine T.mono ?_
      rintro e w1 ⟨ev, rfl, hE, hP1, hK1⟩
      rw [ES.out.1, ← e1.out] at hE
      obtain ⟨i, rfl⟩ := hE.err (by rw [e1.out]; decide)
      rw [ES.out.2.2] at hP1
      obtain ⟨hB1, hM1⟩ := Bkr.poolTurned hF HB.out hq h0 hcy (hP1.more (Nat.le_add_right _ 4)) hK1
      go_wp2
      go_ret2
      refine ActEndN.of e2.out.symm hE ?_
      rw [e3.out]
      exact PSk.turned hf h HR.out hB1 hM1 (fun _ => rfl) rfl rfl (fun _ _ => rfl) (fun _ _ => rfl)
  | false =>
    have C := find_no G bb sb S _ b hr w h
    have e1 : Hid (S.slashC b p = 4) := if_neg (by rw [hr]; decide)
    have e2 : Hid (S.slashN b f p = 0) := if_neg (by rw [e1.out]; decide)
    have e3 : Hid (S.slash b f p = S) := if_neg (by rw [e1.out]; decide)
    clear hr
    go_enter Tryz.func288, Tryz.ntmps288
    go_wp2_with (go_at_call 139; refine C.mono ?_; rintro e w' ⟨rfl, rfl⟩)
    go_quiet (fail)
    go_wp2
    go_ret2
    exact ActEndN.of e2.out.symm (ErrIs.is 3 (by omega) e1.out) (by rw [e3.out]; exact PSk.same hf h (below_drewN (Below.refl _ _) _))
end Go.Proofs.YtmbfdhekplnoaaaGreatDoor

namespace Go.Proofs.YtmbfdhekplnoaaaGreatDoor
open Go.RowKit Go.Maps

theorem Tryz.infoBk : (Tryz.prog.info? 191).map (fun i => (i.zero, i.size, i.bytes)) = some (some (.pointer none), 1, 8) := by kernel_rfl
def regs (S : Sk) (k : Nat) : List Nat := (List.range k).filter fun i => S.R i
theorem regs_yes {S : Sk} {k : Nat} (h : S.R k = true) : regs S (k + 1) = regs S k ++ [k] := by simp [regs, List.range_succ, h]
theorem regs_no {S : Sk} {k : Nat} (h : S.R k = false) : regs S (k + 1) = regs S k := by simp [regs, List.range_succ, h]
theorem regs_len (S : Sk) (k : Nat) : (regs S k).length ≤ k := by
  have := List.length_filter_le (fun i : Nat => S.R i) (List.range k)
  rw [List.length_range] at this
  exact this
theorem regs_nodup (S : Sk) (k : Nat) : (regs S k).Nodup := List.Nodup.sublist (List.filter_sublist) (List.nodup_range)
theorem regs_mem {S : Sk} {k i : Nat} : i ∈ regs S k ↔ i < k ∧ S.R i = true := by simp [regs]
def prow (bb : Int → Nat) (L : List Nat) : List Value := L.map fun i : Nat => .pointer (some ⟨bb i, 0, none⟩)
theorem prow_snoc (bb : Int → Nat) (L : List Nat) (k : Nat) : prow bb (L ++ [k]) = prow bb L ++ [.pointer (some ⟨bb k, 0, none⟩)] := by simp [prow]
theorem grown_below {B : Nat} {w w' : World} {row : Option Nat} (h : w.grownBy w' row) (hr : ∀ j, row = some j → B ≤ j) (hB : B ≤ w.heap.size) : Below B w w' :=
  ⟨h.os, h.tape, h.output, h.size, fun k hk => h.block k (by omega) (fun e => by have := hr k e.symm; omega)⟩

theorem wpList_index_run {P : Program} {w : World} {ops : Array Oper} {rest : List Oper} {o : Oper} {a : Act} {Q : Exit → Act → World → Prop} (hg : o.guard = none) (x i : Operand) (t : TypeId) (hop : o.op = Op.index t x i) (vx vi v : Value) (hx : a.eval x = vx) (hi : a.eval i = vi) (hrun : (Instr.index t vx vi).run P w = .ok v w)
    (h : wpList P ops Q rest (a.put o.dst v) w) : wpList P ops Q (o :: rest) a w := by
  refine wpList_plain hg fun K' hK' => ?_
  unfold Oper.wp
  simp [execOp, hop, hx, hi, hrun, Result.andThen]
  exact hK' _ _ h
theorem ix_0 (a b c : Option Addr) (w : World) : (Instr.index 270 (.agg #[.pointer a, .pointer b, .pointer c]) (.int .i64 ((0 : Nat) : Int))).run Tryz.prog w = .ok (.pointer a) w := by kernel_rfl
theorem ix_1 (a b c : Option Addr) (w : World) : (Instr.index 270 (.agg #[.pointer a, .pointer b, .pointer c]) (.int .i64 ((1 : Nat) : Int))).run Tryz.prog w = .ok (.pointer b) w := by kernel_rfl
theorem ix_2 (a b c : Option Addr) (w : World) : (Instr.index 270 (.agg #[.pointer a, .pointer b, .pointer c]) (.int .i64 ((2 : Nat) : Int))).run Tryz.prog w = .ok (.pointer c) w := by kernel_rfl
set_option maxRecDepth 100000 in
set_option maxHeartbeats 2000000 in
theorem ps_registered (G : Int → Nat → Prop) (bb : Int → Nat) (sb : Nat) (S : Sk) (gb : Int → Nat) (w : World) (h : PSkAt G bb w sb S gb) :
    Calls Tryz.prog 244 #[.pointer (some ⟨sb, 0, none⟩)] w fun e w' => ∃ v, e = .returned v ∧ w'.ownsRow w.heap.size 191 1 v (regs S 3).length (prow bb (regs S 3)) ∧ Below w.heap.size w w' := by
  have x0 := h.c 0 (by omega)
  have x1 := h.c 1 (by omega)
  have x2 := h.c 2 (by omega)
  have cs : Hid (∀ k : Nat, k < 3 → S.R k = true ∨ S.R k = false) := fun k _ => by cases S.R k <;> simp
  have e0 : Hid (∀ k : Nat, S.R k = true → (if S.R k = true then some (⟨bb k, 0, none⟩ : Addr) else none) = some ⟨bb k, 0, none⟩) := fun k hk => if_pos hk
  have e1 : Hid (∀ k : Nat, S.R k = false → (if S.R k = true then some (⟨bb k, 0, none⟩ : Addr) else none) = none) := fun k hk => if_neg (by rw [hk]; decide)
  have q0 := hide (show ∀ k : Nat, k = 0 → (if S.R k = true then some (⟨bb k, 0, none⟩ : Addr) else none) = (if S.R (0 : Nat) = true then some ⟨bb (0 : Nat), 0, none⟩ else none) from fun k hk => by rw [hk])
  obtain ⟨p0, hp0⟩ : ∃ p, p = (if S.R (0 : Nat) = true then some (⟨bb (0 : Nat), 0, none⟩ : Addr) else none) := ⟨_, rfl⟩
  obtain ⟨p1, hp1⟩ : ∃ p, p = (if S.R (1 : Nat) = true then some (⟨bb (1 : Nat), 0, none⟩ : Addr) else none) := ⟨_, rfl⟩
  obtain ⟨p2, hp2⟩ : ∃ p, p = (if S.R (2 : Nat) = true then some (⟨bb (2 : Nat), 0, none⟩ : Addr) else none) := ⟨_, rfl⟩
  rw [← hp0] at x0
  rw [← hp1] at x1
  rw [← hp2] at x2
  have P0 := hide hp0
  have P1 := hide hp1
  have P2 := hide hp2
  clear hp0 hp1 hp2 q0
  obtain ⟨i0, hi, hz0, hz1, hz2⟩ := info_parts Tryz.infoBk
  go_enter Tryz.func244, Tryz.ntmps244
  go_wp2
  go_loopw [3, 5, 10] (fun v _ i wr => ∃ k : Nat, k ≤ 3 ∧ i = .int .i64 k ∧ wr.ownsRow w.heap.size 191 1 v (regs S k).length (prow bb (regs S k)) ∧ Below w.heap.size w wr) (fun _ _ i _ => 3 - (intOf i).toNat)
  case atStart => exact ⟨0, by omega, rfl, by exact World.ownsRow_nil _ _ _ _, Below.refl _ _⟩
  case round =>
    obtain ⟨k, hk, rfl, ow, hB⟩ := hrel
    have k4 : k = 0 ∨ k = 1 ∨ k = 2 ∨ k = 3 := by omega
    clear hk
    rcases k4 with rfl | rfl | rfl | rfl
    · rcases cs.out 0 (by omega) with hr | hr
      · have hp : p0 = some ⟨bb (0 : Nat), 0, none⟩ := P0.out.trans (e0.out 0 hr)
        have HR := hide (regs_yes hr)
        have len := regs_len S 0
        clear hr
        subst hp
        have N1 : ∀ j u, [Value.pointer (some ⟨bb (0 : Nat), 0, none⟩)][j]? = some u → (wr.alloc (.cells #[.pointer (some ⟨bb (0 : Nat), 0, none⟩)] 191)).cell? ((⟨wr.heap.size, 0, none⟩ : Addr).add j) = some u := fun j u hu => by
          rcases j with _ | j
          · exact (cell_new _ _ _ _ _ _ rfl rfl).trans hu
          · simp at hu
        have hb2 : w.heap.size ≤ (wr.alloc (.cells #[.pointer (some ⟨bb (0 : Nat), 0, none⟩)] 191)).heap.size := Nat.le_trans hB.size (by simp)
        go_wp2_with (first | (refine wpList_index_run rfl (.tmp 9) (.tmp 10) 270 rfl (.agg #[.pointer (some ⟨bb (0 : Nat), 0, none⟩), .pointer p1, .pointer p2]) (.int .i64 ((0 : Nat) : Int)) (.pointer (some ⟨bb (0 : Nat), 0, none⟩)) rfl rfl (ix_0 _ _ _ _) ?_) | (at_builtin; refine wpList_append_own _ rfl (.tmp 15) (.tmp 17) 320 rfl w.heap.size 191 i0 _ 1 8 Tryz.underlying320 hi hz0 hz1 hz2 rfl (by decide) u3 _ _ rfl (ow.alloc _) ⟨wr.heap.size, 0, none⟩ 1 1 [.pointer (some ⟨bb (0 : Nat), 0, none⟩)] rfl rfl N1 (by simp [Value.oneCell']) (by simp only [maxLen]; omega) (by omega) hb2 ?_; intro v' w' hown hgrow _))
        go_roundw
        case rel =>
          refine ⟨_, _, _, _, _, _, _, _, _, _, _, _, ?_, rfl⟩
          exact ⟨1, by omega, by go_num, by rw [HR.out, prow_snoc, List.length_append]; exact hown, (hB.alloc hB.size _).trans (grown_below hgrow (fun j hj => (ow.lt j hj).1) hb2)⟩
        case measure => simp [intOf]
      · have hp : p0 = none := P0.out.trans (e1.out 0 hr)
        have HR := hide (regs_no hr)
        clear hr
        subst hp
        go_wp2_with (refine wpList_index_run rfl (.tmp 9) (.tmp 10) 270 rfl (.agg #[.pointer none, .pointer p1, .pointer p2]) (.int .i64 ((0 : Nat) : Int)) (.pointer none) rfl rfl (ix_0 _ _ _ _) ?_)
        go_roundw
        case rel => exact ⟨1, by omega, by go_num, by rw [HR.out]; exact ow, hB⟩
        case measure => simp [intOf]
    · rcases cs.out 1 (by omega) with hr | hr
      · have hp : p1 = some ⟨bb (1 : Nat), 0, none⟩ := P1.out.trans (e0.out 1 hr)
        have HR := hide (regs_yes hr)
        have len := regs_len S 1
        clear hr
        subst hp
        have N1 : ∀ j u, [Value.pointer (some ⟨bb (1 : Nat), 0, none⟩)][j]? = some u → (wr.alloc (.cells #[.pointer (some ⟨bb (1 : Nat), 0, none⟩)] 191)).cell? ((⟨wr.heap.size, 0, none⟩ : Addr).add j) = some u := fun j u hu => by
          rcases j with _ | j
          · exact (cell_new _ _ _ _ _ _ rfl rfl).trans hu
          · simp at hu
        have hb2 : w.heap.size ≤ (wr.alloc (.cells #[.pointer (some ⟨bb (1 : Nat), 0, none⟩)] 191)).heap.size := Nat.le_trans hB.size (by simp)
        go_wp2_with (first | (refine wpList_index_run rfl (.tmp 9) (.tmp 10) 270 rfl (.agg #[.pointer p0, .pointer (some ⟨bb (1 : Nat), 0, none⟩), .pointer p2]) (.int .i64 ((1 : Nat) : Int)) (.pointer (some ⟨bb (1 : Nat), 0, none⟩)) rfl rfl (ix_1 _ _ _ _) ?_) | (at_builtin; refine wpList_append_own _ rfl (.tmp 15) (.tmp 17) 320 rfl w.heap.size 191 i0 _ 1 8 Tryz.underlying320 hi hz0 hz1 hz2 rfl (by decide) u3 _ _ rfl (ow.alloc _) ⟨wr.heap.size, 0, none⟩ 1 1 [.pointer (some ⟨bb (1 : Nat), 0, none⟩)] rfl rfl N1 (by simp [Value.oneCell']) (by simp only [maxLen]; omega) (by omega) hb2 ?_; intro v' w' hown hgrow _))
        go_roundw
        case rel =>
          refine ⟨_, _, _, _, _, _, _, _, _, _, _, _, ?_, rfl⟩
          exact ⟨2, by omega, by go_num, by rw [HR.out, prow_snoc, List.length_append]; exact hown, (hB.alloc hB.size _).trans (grown_below hgrow (fun j hj => (ow.lt j hj).1) hb2)⟩
        case measure => simp [intOf]
      · have hp : p1 = none := P1.out.trans (e1.out 1 hr)
        have HR := hide (regs_no hr)
        clear hr
        subst hp
        go_wp2_with (refine wpList_index_run rfl (.tmp 9) (.tmp 10) 270 rfl (.agg #[.pointer p0, .pointer none, .pointer p2]) (.int .i64 ((1 : Nat) : Int)) (.pointer none) rfl rfl (ix_1 _ _ _ _) ?_)
        go_roundw
        case rel => exact ⟨2, by omega, by go_num, by rw [HR.out]; exact ow, hB⟩
        case measure => simp [intOf]
    · rcases cs.out 2 (by omega) with hr | hr
      · have hp : p2 = some ⟨bb (2 : Nat), 0, none⟩ := P2.out.trans (e0.out 2 hr)
        have HR := hide (regs_yes hr)
        have len := regs_len S 2
        clear hr
        subst hp
        have N1 : ∀ j u, [Value.pointer (some ⟨bb (2 : Nat), 0, none⟩)][j]? = some u → (wr.alloc (.cells #[.pointer (some ⟨bb (2 : Nat), 0, none⟩)] 191)).cell? ((⟨wr.heap.size, 0, none⟩ : Addr).add j) = some u := fun j u hu => by
          rcases j with _ | j
          · exact (cell_new _ _ _ _ _ _ rfl rfl).trans hu
          · simp at hu
        have hb2 : w.heap.size ≤ (wr.alloc (.cells #[.pointer (some ⟨bb (2 : Nat), 0, none⟩)] 191)).heap.size := Nat.le_trans hB.size (by simp)
        go_wp2_with (first | (refine wpList_index_run rfl (.tmp 9) (.tmp 10) 270 rfl (.agg #[.pointer p0, .pointer p1, .pointer (some ⟨bb (2 : Nat), 0, none⟩)]) (.int .i64 ((2 : Nat) : Int)) (.pointer (some ⟨bb (2 : Nat), 0, none⟩)) rfl rfl (ix_2 _ _ _ _) ?_) | (at_builtin; refine wpList_append_own _ rfl (.tmp 15) (.tmp 17) 320 rfl w.heap.size 191 i0 _ 1 8 Tryz.underlying320 hi hz0 hz1 hz2 rfl (by decide) u3 _ _ rfl (ow.alloc _) ⟨wr.heap.size, 0, none⟩ 1 1 [.pointer (some ⟨bb (2 : Nat), 0, none⟩)] rfl rfl N1 (by simp [Value.oneCell']) (by simp only [maxLen]; omega) (by omega) hb2 ?_; intro v' w' hown hgrow _))
        go_roundw
        case rel =>
          refine ⟨_, _, _, _, _, _, _, _, _, _, _, _, ?_, rfl⟩
          exact ⟨3, by omega, by go_num, by rw [HR.out, prow_snoc, List.length_append]; exact hown, (hB.alloc hB.size _).trans (grown_below hgrow (fun j hj => (ow.lt j hj).1) hb2)⟩
        case measure => simp [intOf]
      · have hp : p2 = none := P2.out.trans (e1.out 2 hr)
        have HR := hide (regs_no hr)
        clear hr
        subst hp
        go_wp2_with (refine wpList_index_run rfl (.tmp 9) (.tmp 10) 270 rfl (.agg #[.pointer p0, .pointer p1, .pointer none]) (.int .i64 ((2 : Nat) : Int)) (.pointer none) rfl rfl (ix_2 _ _ _ _) ?_)
        go_roundw
        case rel => exact ⟨3, by omega, by go_num, by rw [HR.out]; exact ow, hB⟩
        case measure => simp [intOf]
    · go_wp2
      go_ret
      exact ⟨_, rfl, ow, hB⟩

/-! bakers that are done -/
def dn (L : List Nat) : Int → Bool := fun b => L.any fun x => decide ((x : Int) = b)
theorem dn_true {L : List Nat} {b : Int} : dn L b = true ↔ ∃ x, x ∈ L ∧ (x : Int) = b := by simp [dn]
theorem dn_nil (b : Int) : dn [] b = false := rfl
theorem dn_snoc (L : List Nat) (k : Nat) : dn (L ++ [k]) = set1 (dn L) k true := by
  funext b
  by_cases e : b = k
  · subst e; rw [set1_same]; simp [dn]
  · rw [set1_other _ _ _ _ e]
    simp [dn, Ne.symm e]
theorem dn_new {L : List Nat} {k : Nat} (h : k ∉ L) : dn L k = false := by
  cases e : dn L k with
  | false => rfl
  | true =>
    obtain ⟨x, hx, e2⟩ := dn_true.1 e
    have : x = k := by omega
    exact absurd (this ▸ hx) h
theorem take_next {L : List Nat} {i k : Nat} (h : L[i]? = some k) : L.take (i + 1) = L.take i ++ [k] := by
  obtain ⟨hi, rfl⟩ := List.getElem?_eq_some_iff.1 h
  exact List.take_succ_eq_append_getElem hi
theorem take_new {L : List Nat} (hn : L.Nodup) {i k : Nat} (h : L[i]? = some k) : k ∉ L.take i := by
  obtain ⟨hi, rfl⟩ := List.getElem?_eq_some_iff.1 h
  intro g
  obtain ⟨j, hj, e⟩ := List.mem_iff_getElem.1 g
  rw [List.length_take] at hj
  rw [List.getElem_take] at e
  exact (List.pairwise_iff_getElem.1 hn) j i (by omega) hi (by omega) e
theorem dn_regs {S : Sk} (hS : S.Ok) (b : Int) : dn (regs S 3) b = S.R b := by
  cases hr : S.R b with
  | true =>
    have := hS.rin b hr
    obtain ⟨k, rfl⟩ : ∃ k : Nat, b = k := ⟨b.toNat, by omega⟩
    exact dn_true.2 ⟨k, regs_mem.2 ⟨by omega, hr⟩, rfl⟩
  | false =>
    cases e : dn (regs S 3) b with
    | false => rfl
    | true =>
      obtain ⟨x, hx, rfl⟩ := dn_true.1 e
      rw [(regs_mem.1 hx).2] at hr; cases hr
theorem prow_at {w : World} {B n : Nat} {v : Value} {bb : Int → Nat} {L : List Nat} (h : w.ownsRow B 191 1 v n (prow bb L)) (hn : n = L.length) : ∃ a cap, v = .slice a n cap ∧ ∀ i k : Nat, L[i]? = some k → ∃ x, a = some ⟨x, 0, none⟩ ∧ B ≤ x ∧ w.cell? ⟨x, i, none⟩ = some (.pointer (some ⟨bb k, 0, none⟩)) := by
  rcases h.2 with ⟨e, h0⟩ | ⟨x, cap, cur, e, hb, _⟩
  · refine ⟨none, 0, by rw [e, h0], fun i k hk => ?_⟩
    have := (List.getElem?_eq_some_iff.1 hk).1
    omega
  · refine ⟨_, cap, e, fun i k hk => ⟨x, rfl, hb, ?_⟩⟩
    have c := h.cells (g := x) (by rw [e]; rfl) i (.pointer (some ⟨bb k, 0, none⟩)) (by simp [prow, hk])
    have e2 : ((⟨x, 0, none⟩ : Addr).add i) = ⟨x, i, none⟩ := by
      simp [Addr.add]
      intro e
      exact e.symm
    rw [e2] at c
    exact c

/-! freeing -/
def frNS (S : Sk) (o cyc : Int) : Int → Int → Int := fun b c => if c + 2 < cyc then (S.W b c).leaveN o else 0
def frCS (S : Sk) (o cyc : Int) : Int → Int → Int := fun b c => if c + 2 < cyc ∧ (S.W b c).leaveC o = 0 then 1 else 0
theorem sum01 {f : Int → Int → Int} (h : ∀ b c, f b c = 0 ∨ f b c = 1) : ∀ K : List (Int × Int), sumK K f = 0 ↔ ∀ k, k ∈ K → f k.1 k.2 = 0
  | [] => ⟨fun _ k hk => (by cases hk), fun _ => rfl⟩
  | k :: l => by
    have n := sumK_nonneg (f := f) l (fun j _ => by rcases h j.1 j.2 with e | e <;> omega)
    have ih := sum01 h l
    rw [sumK_cons]
    constructor
    · intro g j hj
      have hk := h k.1 k.2
      rcases List.mem_cons.1 hj with rfl | hj
      · omega
      · exact ih.1 (by omega) j hj
    · intro g
      have := g k (List.mem_cons_self ..)
      have := ih.2 (fun j hj => g j (List.mem_cons_of_mem _ hj))
      omega
theorem frCS_01 (S : Sk) (o cyc : Int) (b c : Int) : frCS S o cyc b c = 0 ∨ frCS S o cyc b c = 1 := by unfold frCS; split <;> omega
theorem free_none {S : Sk} {o cyc : Int} (hb : Ow o ∧ Cy cyc) (h : sumK S.K (frCS S o cyc) = 0) : S.freeC o cyc = 4 ∧ S.freeN o cyc = 0 := by
  have hz := (sum01 (frCS_01 S o cyc) S.K).1 h
  have nl : ∀ k, k ∈ S.K → k.2 + 2 < cyc → (S.W k.1 k.2).leaveC o ≠ 0 := fun k hk h1 h2 => by
    have := hz k hk
    rw [show frCS S o cyc k.1 k.2 = 1 from if_pos ⟨h1, h2⟩] at this
    omega
  constructor
  · have hh : S.has o cyc = false := by
      unfold Sk.has
      rw [List.any_eq_false]
      intro k hk
      by_cases h1 : k.2 + 2 < cyc
      · simp [nl k hk h1]
      · simp [h1]
    unfold Sk.freeC
    rw [if_neg (fun g => g hb), hh]
    rfl
  · unfold Sk.freeN
    rw [if_neg (fun g => g hb)]
    refine sumK_zero _ fun k hk => ?_
    by_cases h1 : k.2 + 2 < cyc
    · rw [if_pos h1]; exact if_neg (nl k hk h1)
    · exact if_neg h1
theorem free_some {S : Sk} {o cyc : Int} (hb : Ow o ∧ Cy cyc) (h : sumK S.K (frCS S o cyc) ≠ 0) : S.freeC o cyc = 0 := by
  have hh : S.has o cyc = true := by
    cases e : S.has o cyc with
    | true => rfl
    | false =>
      refine absurd ((sum01 (frCS_01 S o cyc) S.K).2 fun k hk => ?_) h
      unfold Sk.has at e
      rw [List.any_eq_false] at e
      have := e k hk
      refine if_neg fun g => this ?_
      simp [g.1, g.2]
  unfold Sk.freeC
  rw [if_neg (fun g => g hb), hh]
  rfl
def Sk.freeD (S : Sk) (d : Int → Bool) (o cyc : Int) : Sk := ⟨S.R, S.P, S.K, fun b c => if d b = true then frT o cyc c (S.W b c) else S.W b c⟩
theorem freeD_start (S : Sk) (o cyc : Int) : S.freeD (dn []) o cyc = S := rfl
theorem freeD_end {S : Sk} (hS : S.Ok) {o cyc : Int} (hb : Ow o ∧ Cy cyc) : S.freeD (dn (regs S 3)) o cyc = S.free o cyc := by
  unfold Sk.free
  rw [if_neg (fun g => g hb)]
  have e : (fun b c => if dn (regs S 3) b = true then frT o cyc c (S.W b c) else S.W b c) = fun b' c' => if c' + 2 < cyc then (S.W b' c').leave o else S.W b' c' := by
    funext b c
    rw [dn_regs hS]
    cases hr : S.R b with
    | true => rfl
    | false =>
      have e0' : S.W b c = e0 := hS.wout b c (fun g => by rw [(hS.kin _ g).1] at hr; cases hr)
      rw [e0', if_neg (by decide)]
      split
      · exact (e0_leave o).symm
      · rfl
  exact congrArg (fun V => (⟨S.R, S.P, S.K, V⟩ : Sk)) e
def frGb (g : Nat) (d : Int → Bool) : Int → Nat := fun b => if d b = true then g + 4 else g
theorem PSkAt.freed {G : Int → Nat → Prop} {bb : Int → Nat} {w w' : World} {sb g : Nat} {S : Sk} {d : Int → Bool} {o cyc b : Int} (h : PSkAt G bb w sb (S.freeD d o cyc) (frGb g d)) (hr : S.R b = true)
    (hB : Bkr (G b) w' (bb b) (S.P b) (fun c => frT o cyc c (S.W b c)) (g + 4)) (hM : Moved (G b) (G b) w w') : PSkAt G bb w' sb (S.freeD (set1 d b true) o cyc) (frGb g (set1 d b true)) := by
  have t := h.turn (S' := S.freeD (set1 d b true) o cyc) hr hB hM (fun _ => rfl) rfl (funext fun c => if_pos (set1_same ..)) (fun _ _ => rfl) (fun i hi => funext fun c => by
    show (if set1 d b true i = true then frT o cyc c (S.W i c) else S.W i c) = (if d i = true then frT o cyc c (S.W i c) else S.W i c)
    rw [set1_other _ _ _ _ hi])
  rw [set1_id G b (G b) rfl] at t
  have e : set1 (frGb g d) b (g + 4) = frGb g (set1 d b true) := by
    funext i
    by_cases e : i = b
    · subst e
      rw [set1_same]
      exact (if_pos (set1_same ..)).symm
    · rw [set1_other _ _ _ _ e]
      show (if d i = true then g + 4 else g) = (if set1 d b true i = true then g + 4 else g)
      rw [set1_other _ _ _ _ e]
  rw [e] at t
  exact t
set_option maxRecDepth 100000 in
set_option maxHeartbeats 4000000 in
theorem ps_free (F : Nat → Prop) (sb : Nat) (S : Sk) (hS : S.Ok) (hK : S.K.length ≤ 900) (g : Nat) (hg : g ≤ 900000) (o c : Int) (_wo : (Lit.int .i64 o).wf = true) (_wc : (Lit.int .i64 c).wf = true) (A : Nat → Addr) (w : World) (hL : StkLaid w A) (h : PSk F w sb S g) :
    Calls Tryz.prog 212 #[.pointer (some ⟨sb, 0, none⟩), .int .i64 o, .int .i64 c] w (ActEndN F sb g (S.free o c) (S.freeN o c) (S.freeC o c) A w) := by
  have v1 := hL.v1
  have hlt := hide h.lt
  obtain ⟨G, bb, hf, h⟩ := h
  by_cases ho : Ow o
  · have I := owner_yes o ho.1 ho.2
    by_cases hc : Cy c
    · have J := cycle_yes c hc.1 hc.2
      have C := ps_registered G bb sb S _ w h
      have ln := regs_len S 3
      have HB := hide (show Ow o ∧ Cy c from ⟨ho, hc⟩)
      have fN : ∀ b' c', 0 ≤ frNS S o c b' c' ∧ frNS S o c b' c' ≤ 1125899906842624 := fun b' c' => by
        unfold frNS
        split
        · exact (hS.wok b' c').leaveN_bd o
        · omega
      have fC : ∀ b' c', 0 ≤ frCS S o c b' c' ∧ frCS S o c b' c' ≤ 1 := fun b' c' => by unfold frCS; split <;> omega
      clear ho hc
      go_enter Tryz.func212, Tryz.ntmps212
      go_wp2_with (first | (go_at_call 202; refine (I _).mono ?_; rintro e w' ⟨rfl, hw⟩; obtain rfl := hw.symm) | (go_at_call 207; refine (J _).mono ?_; rintro e w' ⟨rfl, hw⟩; obtain rfl := hw.symm))
      refine C.mono ?_
      rintro e w1 ⟨v, rfl, ow, hB1⟩
      obtain ⟨a, cap, rfl, hrow⟩ := prow_at ow rfl
      go_wp2
      go_loopw [8, 9, 26] (fun s t i wr => ∃ k : Nat, k ≤ (regs S 3).length ∧ i = .int .i64 k ∧ s = .int .i64 (sumD S.K (dn ((regs S 3).take k)) (frNS S o c)) ∧ t = .int .i64 (sumD S.K (dn ((regs S 3).take k)) (frCS S o c)) ∧
        PSkAt G bb wr sb (S.freeD (dn ((regs S 3).take k)) o c) (frGb g (dn ((regs S 3).take k))) ∧ KeptP F w1 wr ∧ PoolLaid wr A true) (fun _ _ i _ => (regs S 3).length - (intOf i).toNat)
      case atStart => exact ⟨0, by omega, rfl, by rw [List.take_zero, sumD_start dn_nil], by rw [List.take_zero, sumD_start dn_nil], by rw [List.take_zero, freeD_start]; exact h.below hB1, KeptP.refl _ _, hL.pool.below hB1⟩
      case round =>
        obtain ⟨k, hk, rfl, rfl, rfl, hP, hKp, hLr⟩ := hrel
        by_cases hlt2 : k < (regs S 3).length
        · obtain ⟨b, hb⟩ : ∃ b, (regs S 3)[k]? = some b := ⟨_, List.getElem?_eq_getElem hlt2⟩
          obtain ⟨hb3, hr⟩ := regs_mem.1 (List.mem_of_getElem? hb)
          obtain ⟨x, rfl, hxB, hcx⟩ := hrow k b hb
          have hcx' : wr.cell? ⟨x, k, none⟩ = some (.pointer (some ⟨bb b, 0, none⟩)) := hKp.old hcx (fun g => by have := hlt.out x g; omega)
          have hd := dn_new (take_new (regs_nodup S 3) hb)
          have hBk : Bkr (G b) wr (bb b) (S.P b) (S.W b) g := by
            have := hP.bk b hr
            have e1 : (S.freeD (dn ((regs S 3).take k)) o c).W b = S.W b := funext fun c' => if_neg (by rw [hd]; decide)
            have e2 : frGb g (dn ((regs S 3).take k)) b = g := if_neg (by rw [hd]; decide)
            rw [e1, e2] at this
            exact this
          have T := bk_free (G b) (bb b) g (S.P b) (S.W b) (hS.wok b) hg o c HB.out.1 HB.out.2 S.K hS.knd hK b (fun c' hc' => hS.wout b c' hc') A wr hLr hBk
          have q1 : (sumK S.K fun b' c' => if b' = (b : Int) then frN (S.W b) o c b' c' else 0) = sumK S.K fun b' c' => if b' = (b : Int) then frNS S o c b' c' else 0 := sumK_congr _ fun k _ => by
            by_cases e : k.1 = (b : Int)
            · rw [if_pos e, if_pos e]; unfold frN frNS; rw [e]
            · rw [if_neg e, if_neg e]
          have q2 : (sumK S.K fun b' c' => if b' = (b : Int) then frC (S.W b) o c b' c' else 0) = sumK S.K fun b' c' => if b' = (b : Int) then frCS S o c b' c' else 0 := sumK_congr _ fun k _ => by
            by_cases e : k.1 = (b : Int)
            · rw [if_pos e, if_pos e]; unfold frC frCS; rw [e]
            · rw [if_neg e, if_neg e]
          rw [q1, q2] at T
          have S1 := hide (sumD_step (K := S.K) (f := frNS S o c) hd)
          have S2 := hide (sumD_step (K := S.K) (f := frCS S o c) hd)
          have TN := hide (take_next hb)
          obtain ⟨z0, z1⟩ := sumD_bd (K := S.K) (d := dn ((regs S 3).take k)) (M := 1125899906842624) (by decide) fN
          obtain ⟨y0, y1⟩ := sumD_bd (K := S.K) (d := dn ((regs S 3).take k)) (M := 1) (by decide) fC
          obtain ⟨z2, z3⟩ := sumD_bd (K := S.K) (d := set1 (dn ((regs S 3).take k)) b true) (M := 1125899906842624) (by decide) fN
          obtain ⟨y2, y3⟩ := sumD_bd (K := S.K) (d := set1 (dn ((regs S 3).take k)) b true) (M := 1) (by decide) fC
          rw [S1.out] at z2 z3
          rw [S2.out] at y2 y3
          have hKi : (S.K.length : Int) ≤ 900 := by omega
          have HR := hide hr
          have HP := hide hP
          generalize sumD S.K (dn ((regs S 3).take k)) (frNS S o c) = z at *
          generalize sumD S.K (dn ((regs S 3).take k)) (frCS S o c) = y at *
          generalize (sumK S.K fun b' c' => if b' = (b : Int) then frNS S o c b' c' else 0) = z' at *
          generalize (sumK S.K fun b' c' => if b' = (b : Int) then frCS S o c b' c' else 0) = y' at *
          have z4 : z + z' ≤ 1013309916158361600 := by omega
          have y4 : y + y' ≤ 900 := by omega
          clear z3 y3 z1 y1 hKi hr hP q1 q2 hd hb hrow hcx
          go_wp2_with fail
          refine T.mono ?_
          rintro e w2 ⟨rfl, hB2, hM2, hL2⟩
          go_wp2
          go_roundw
          case rel => exact ⟨k + 1, by omega, by go_num, by rw [TN.out, dn_snoc, S1.out], by rw [TN.out, dn_snoc, S2.out], by rw [TN.out, dn_snoc]; exact HP.out.freed HR.out hB2 hM2, hKp.trans hM2.kept (fun i _ gi => (hf i).2 (.inr ⟨b, gi⟩)), hL2⟩
          case measure => simp [intOf]; omega
        · obtain rfl : k = (regs S 3).length := by omega
          rw [List.take_length] at hP
          have ED : ∀ f, sumD S.K (dn (regs S 3)) f = sumK S.K f := fun f => sumD_end (fun k hk => by rw [dn_regs hS]; exact (hS.kin k hk).1)
          rw [List.take_length, ED, ED]
          rw [freeD_end hS HB.out] at hP
          have hEnd : ∃ F', PSk F' wr sb (S.free o c) (g + 4) ∧ Moved F F' w wr := by
            refine ⟨owns G sb, hP.sk (fun b => ?_), (KeptP.of_below hB1).trans hKp (fun _ _ g => g), fun k _ gk => (hf k).2 gk⟩
            show (if dn (regs S 3) b = true then g + 4 else g) ≤ g + 4
            split <;> omega
          have FN : Hid (sumK S.K (frNS S o c) = S.freeN o c) := (if_neg (fun g => g HB.out)).symm
          have v3 := hLr.v3
          have HE := hide hEnd
          clear hlt2 hk hrow hP hEnd ED
          by_cases hz : sumK S.K (frCS S o c) = 0
          · have ez := hide (free_none HB.out hz)
            have tz : (sumK S.K (frCS S o c) == 0) = true := by simp [hz]
            clear hz
            generalize sumK S.K (frCS S o c) = y at *
            go_wp2
            go_quiet (fail)
            go_wp2
            go_ret2
            obtain ⟨F', h1, h2⟩ := HE.out
            exact ActEndN.of ez.out.2.symm (ErrIs.is 3 (by omega) ez.out.1) ⟨F', h1.keptP (G := fun _ => False) ((KeptP.refl _ _).drewN _) (fun _ g => g.elim), h2.drewN _⟩
          · have ez := hide (free_some HB.out hz)
            have tz : (sumK S.K (frCS S o c) == 0) = false := by simp [hz]
            clear hz
            generalize sumK S.K (frCS S o c) = y at *
            go_wp2
            go_ret2
            exact ActEndN.of FN.out (ErrIs.no ez.out) HE.out
    · have J := cycle_no c hc
      have e1 : Hid (S.freeC o c = 2) := if_pos (fun g => hc g.2)
      have e2 : Hid (S.freeN o c = 0) := if_pos (fun g => hc g.2)
      have e3 : Hid (S.free o c = S) := if_pos (fun g => hc g.2)
      clear ho hc
      go_enter Tryz.func212, Tryz.ntmps212
      go_wp2_with (first | (go_at_call 202; refine (I _).mono ?_; rintro e w' ⟨rfl, hw⟩; obtain rfl := hw.symm) | (go_at_call 207; refine (J _).mono ?_; rintro e w' ⟨rfl, hw⟩; obtain rfl := hw.symm))
      go_quiet (fail)
      go_wp2
      go_ret2
      exact ActEndN.of e2.out.symm (ErrIs.is 1 (by omega) e1.out) (by rw [e3.out]; exact PSk.same hf h (below_drewN (Below.refl _ _) _))
  · have I := owner_no o ho
    have e1 : Hid (S.freeC o c = 2) := if_pos (fun g => ho g.1)
    have e2 : Hid (S.freeN o c = 0) := if_pos (fun g => ho g.1)
    have e3 : Hid (S.free o c = S) := if_pos (fun g => ho g.1)
    clear ho
    go_enter Tryz.func212, Tryz.ntmps212
    go_wp2_with (go_at_call 202; refine (I _).mono ?_; rintro e w' ⟨rfl, hw⟩; obtain rfl := hw.symm)
    go_quiet (fail)
    go_wp2
    go_ret2
    exact ActEndN.of e2.out.symm (ErrIs.is 1 (by omega) e1.out) (by rw [e3.out]; exact PSk.same hf h (below_drewN (Below.refl _ _) _))
end Go.Proofs.YtmbfdhekplnoaaaGreatDoor

namespace Go.Proofs.YtmbfdhekplnoaaaGreatDoor
open Go.RowKit

def crow (L : List Cs) : List Value := match L with
  | [] => []
  | t :: l => .int .i64 t.1 :: .int .i64 t.2.1 :: .int .i64 t.2.2.1 :: .int .i64 t.2.2.2 :: crow l
theorem crow_len : ∀ L : List Cs, (crow L).length = L.length * 4
  | [] => rfl
  | _ :: l => by simp [crow, crow_len l]; omega
theorem crow_append (t : Cs) : ∀ L : List Cs, crow (L ++ [t]) = crow L ++ [.int .i64 t.1, .int .i64 t.2.1, .int .i64 t.2.2.1, .int .i64 t.2.2.2]
  | [] => rfl
  | _ :: l => by simp [crow, crow_append t l]
theorem crow_at : ∀ (L : List Cs) (i : Nat) (t : Cs), L[i]? = some t → (crow L)[i * 4]? = some (.int .i64 t.1) ∧ (crow L)[i * 4 + 1]? = some (.int .i64 t.2.1) ∧ (crow L)[i * 4 + 2]? = some (.int .i64 t.2.2.1) ∧ (crow L)[i * 4 + 3]? = some (.int .i64 t.2.2.2)
  | [], _, _, h => by simp at h
  | u :: l, 0, t, h => by
    have e : u = t := by simpa using h
    subst e
    exact ⟨rfl, rfl, rfl, rfl⟩
  | u :: l, i + 1, t, h => by
    have := crow_at l i t (by simpa using h)
    rw [show (i + 1) * 4 = i * 4 + 4 by omega]
    exact this
end Go.Proofs.YtmbfdhekplnoaaaGreatDoor

namespace Go.Proofs.YtmbfdhekplnoaaaGreatDoor
open Go.RowKit Go.Maps

theorem Tryz.evLaid : laidOutB Tryz.prog = true := by kernel_rfl
theorem Tryz.evRow : (91 : TypeId) < Tryz.prog.types.size := of_decide_eq_true (by kernel_rfl)
theorem Tryz.evCells : Tryz.prog.cellsOf 91 = 3 := by kernel_rfl
theorem Tryz.evType : Tryz.prog.keyType 91 = true := by kernel_rfl
theorem Tryz.evDeep : Tryz.prog.keyTypeAt 2 91 = true := by kernel_rfl
theorem evKeyed : Keyed Tryz.prog 91 := Keyed.of_law (deep_law_laid Tryz.evLaid (Nat.le_of_ble_eq_true rfl : 2 + 1 ≤ 10000) Tryz.evRow Tryz.evDeep (by rw [Tryz.underlying91]))
abbrev evV (e : Ev) : Value := .agg #[.int .i64 e.1, .int .i64 e.2.1, .int .i64 e.2.2]
def evLit (e : Ev) : Lit := .string (keyBytes [.int .i64 e.1, .int .i64 e.2.1, .int .i64 e.2.2])
structure EvWf (e : Ev) : Prop where
  b : (Lit.int .i64 e.1).wf = true
  y : (Lit.int .i64 e.2.1).wf = true
  m : (Lit.int .i64 e.2.2).wf = true
theorem ev_key (e : Ev) (h : EvWf e) : keyOf Tryz.prog 91 (evV e) = some (evLit e) := by
  obtain ⟨n, hn⟩ : ∃ n, Tryz.prog.types.size = n + 1 := by
    have h0 : 0 < Tryz.prog.types.size := Nat.lt_of_le_of_lt (Nat.zero_le _) Tryz.evRow
    generalize Tryz.prog.types.size = z at h0
    exact ⟨z - 1, by omega⟩
  have c1 : Tryz.prog.cellsOf 3 = 1 := by kernel_rfl
  unfold keyOf
  simp only [Tryz.underlying91, Tryz.evType, Value.formed]
  rw [hn]
  simp [Program.keyLits, Tryz.underlying91, Tryz.underlying3, Tryz.evCells, c1, h.b, h.y, h.m, Value.cells, evLit]
theorem evLit_inj {d e : Ev} (hd : EvWf d) (he : EvWf e) (h : evLit d = evLit e) : d = e := by
  have g : evV d = evV e := evKeyed.inj (ev_key d hd) (by rw [h]; exact ev_key e he)
  obtain ⟨a, b, c⟩ := d
  obtain ⟨x, y, z⟩ := e
  simp only [evV, Value.agg.injEq, Array.mk.injEq, List.cons.injEq, Value.int.injEq, true_and, and_true] at g
  obtain ⟨rfl, rfl, rfl⟩ := g
  rfl
def OwnE (w : World) (m : Nat) (H : Ev → Bool) (g : Nat) : Prop :=
  ∃ (n : Nat) (D : DataW Unit), w.ownsMap Tryz.prog 91 unitElem m n D ∧ n ≤ g ∧ ∀ e : Ev, EvWf e → Maps.has D (evLit e) = H e
theorem OwnE.of_block {w w' : World} {m g : Nat} {H : Ev → Bool} (h : OwnE w m H g) (hb : w'.heap[m]? = w.heap[m]?) : OwnE w' m H g := by
  obtain ⟨n, D, ⟨es, clock, hes, F, hs, hD⟩, r⟩ := h
  exact ⟨n, D, ⟨es, clock, hb.trans hes, F, hs, hD⟩, r⟩
theorem OwnE.lt {w : World} {m g : Nat} {H : Ev → Bool} (h : OwnE w m H g) : m < w.heap.size := by
  obtain ⟨n, D, hown, _⟩ := h
  exact hown.lt
theorem OwnE.more {w : World} {m g g' : Nat} {H : Ev → Bool} (h : OwnE w m H g) (hg : g ≤ g') : OwnE w m H g' := by
  obtain ⟨n, D, ho, hn, r⟩ := h
  exact ⟨n, D, ho, Nat.le_trans hn hg, r⟩
theorem OwnE.congr {w : World} {m g : Nat} {H H' : Ev → Bool} (h : OwnE w m H g) (e : ∀ x, EvWf x → H x = H' x) : OwnE w m H' g := by
  obtain ⟨n, D, ho, hn, r⟩ := h
  exact ⟨n, D, ho, hn, fun x hx => (r x hx).trans (e x hx)⟩
theorem OwnE.look {w : World} {m g : Nat} {H : Ev → Bool} (h : OwnE w m H g) (e : Ev) (he : EvWf e) :
    (Instr.lookup 261 (.map (some m)) (evV e) true).run Tryz.prog w = .ok (.tuple #[.agg #[], .bool (H e)]) w := by
  obtain ⟨n, D, ho, _, r⟩ := h
  obtain ⟨v, ps, hrun, hv⟩ := ho.look_ok evKeyed Tryz.underlying261 (z := .agg #[]) (by kernel_rfl) unitElem_mk (ev_key e he)
  obtain ⟨rfl, _⟩ := unitElem_inv hv
  rw [r e he] at hrun
  exact hrun
theorem OwnE.put {w : World} {m n g : Nat} {D d : DataW Unit} {H : Ev → Bool} {e : Ev} (he : EvWf e) (hm : IsMap D) (h : w.ownsMap Tryz.prog 91 unitElem m (n + 1) (D.put (evLit e) d)) (hn : n ≤ g) (r : ∀ e : Ev, EvWf e → Maps.has D (evLit e) = H e) :
    OwnE w m (fun x => decide (x = e) || H x) (g + 1) := by
  refine ⟨n + 1, _, h, by omega, fun x hx => ?_⟩
  by_cases q : x = e
  · subst q
    have q := has_put_same (k := evLit x) hm (show WideAt.IsKeyLit (evLit x) from trivial) d
    rw [q]
    simp
  · rw [has_put_other (fun z => q (evLit_inj hx he z)), r x hx]
    simp [q]
end Go.Proofs.YtmbfdhekplnoaaaGreatDoor
