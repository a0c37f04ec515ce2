/-
  The program's stakes by their contracts: what is done with one baker.
-/
import Derived.Test.YtaihcceobnfmhaaDoorProgStkTells
namespace Go.Proofs.YtaihcceobnfmhaaDoor
open Go.RowKit Go.Maps

/-! one baker turned, or none -/
theorem PSk.turned {F : Nat → Prop} {G : Int → Nat → Prop} {bb : Int → Nat} {w w' : World} {sb g : Nat} {S S' : Sk} (hf : ∀ k, F k ↔ k = sb ∨ ∃ b, G b k) (h : PSkAt G bb w sb S (fun _ => g)) {b : Int} (hr : S.R b = true) {G' : Nat → Prop} {P' : St} {W' : Int → St}
    (hB : Bkr G' w' (bb b) P' W' (g + 4)) (hM : Moved (G b) G' w w') (hR : ∀ i, S'.R i = S.R i) (hP : S'.P b = P') (hW : S'.W b = W') (hPo : ∀ i, i ≠ b → S'.P i = S.P i) (hWo : ∀ i, i ≠ b → S'.W i = S.W i) : ∃ F', PSk F' w' sb S' (g + 4) ∧ Moved F F' w w' :=
  ⟨_, (h.turn hr hB hM hR hP hW hPo hWo).sk (fun i => by
    by_cases e : i = b
    · subst e; rw [set1_same]; exact Nat.le_refl _
    · rw [set1_other _ _ _ _ e]; omega), moved_turn hf hM⟩
theorem PSk.same {F : Nat → Prop} {G : Int → Nat → Prop} {bb : Int → Nat} {w w' : World} {sb g : Nat} {S : Sk} (hf : ∀ k, F k ↔ k = sb ∨ ∃ b, G b k) (h : PSkAt G bb w sb S (fun _ => g)) (hB : Below w.heap.size w w') : ∃ F', PSk F' w' sb S (g + 4) ∧ Moved F F' w w' :=
  ⟨F, PSk.more ⟨G, bb, hf, h.below hB⟩ (by omega), KeptP.of_below hB, fun _ _ g => g⟩
theorem Bkr.poolTurned {F : Nat → Prop} {tag : Nat → Tg} {w w' : World} {bb p pm wm g : Nat} {P P' : St} {H : Int → Bool} {q qm : Int → Nat} {W : Int → St} (hf : ∀ k, F k ↔ tag k ≠ Tg.no) (hb : BkAt tag w bb p pm wm P g H q qm W (fun _ => g)) (hq : OwnQ w wm H q g)
    (h0 : ∀ c, H c = false → W c = e0) (hcy : ∀ c, H c = true → Cy c) (hP : PoolAt w' p pm P' (g + 4)) (hK : Kept [p, pm] w w') : Bkr F w' bb P' W (g + 4) ∧ Moved F F w w' := by
  obtain ⟨hb', hT⟩ := hb.poolTurned hK hP
  exact ⟨⟨tag, p, pm, wm, H, q, qm, hf, hb'.congr (fun _ _ => rfl) (fun _ _ => Nat.le_add_right _ _), (hq.of_block (hT.block wm hq.lt (by rw [hb.tm]; intro e; cases e))).more (by omega), h0, hcy⟩, hT.mono (fun k _ e => (hf k).2 (by rw [e]; intro i; cases i)), fun _ _ g => g⟩

theorem Bkr.poolTurned0 {F : Nat → Prop} {tag : Nat → Tg} {w w' : World} {bb p pm wm g : Nat} {P P' : St} {H : Int → Bool} {q qm : Int → Nat} {W : Int → St} (hf : ∀ k, F k ↔ tag k ≠ Tg.no) (hb : BkAt tag w bb p pm wm P g H q qm W (fun _ => g)) (hq : OwnQ w wm H q g)
    (h0 : ∀ c, H c = false → W c = e0) (hcy : ∀ c, H c = true → Cy c) (hP : PoolAt w' p pm P' g) (hK : Kept [p, pm] w w') : Bkr F w' bb P' W g ∧ Moved F F w w' := by
  obtain ⟨hb', hT⟩ := hb.poolTurned hK hP
  exact ⟨⟨tag, p, pm, wm, H, q, qm, hf, hb', hq.of_block (hT.block wm hq.lt (by rw [hb.tm]; intro e; cases e)), h0, hcy⟩, hT.mono (fun k _ e => (hf k).2 (by rw [e]; intro i; cases i)), fun _ _ g => g⟩

/-! new stakes -/
theorem ps_new (w : World) :
    Calls Tryd.prog 22 #[] w fun e w' => ∃ sb F, e = .returned (.pointer (some ⟨sb, 0, none⟩)) ∧ PSk F w' sb Sk.none 0 ∧ (∀ k, F k → w.heap.size ≤ k) ∧ Below w.heap.size w w' := by
  go_enter Tryd.func22, Tryd.ntmps22
  go_wp2
  go_ret
  refine ⟨w.heap.size, fun k => k = w.heap.size, rfl, ⟨fun _ _ => False, fun _ => 0, fun k => ⟨.inl, fun g => g.elim (fun e => e) (fun ⟨_, e⟩ => e.elim)⟩, fun b hb => ?_, fun b hb => World.frozen?_alloc_at _ _ _ _ rfl, fun _ e => (by cases e), fun _ _ _ e => e, fun _ _ _ e => e.elim, fun _ _ e => e.elim⟩, fun k e => by rw [e]; exact Nat.le_refl _, (Below.refl _ _).alloc (Nat.le_refl _) _⟩
  have : b = 0 ∨ b = 1 ∨ b = 2 := by omega
  rcases this with rfl | rfl | rfl <;> exact cell_new _ _ _ _ _ _ rfl rfl

/-! a new baker -/
theorem bkr_fresh {w : World} {nb pb pm m : Nat} (c0 : w.cell? ⟨nb, 0, none⟩ = some (.pointer (some ⟨pb, 0, none⟩))) (c1 : w.cell? ⟨nb, 1, none⟩ = some (.map (some m))) (f0 : w.frozen? ⟨nb, 0, none⟩ = false) (hP : PoolAt w pb pm e0 0) (hq : OwnQ w m (fun _ => false) (fun _ => 0) 0) (hne : m ≠ pm) :
    Bkr (fun k => k = nb ∨ k = pb ∨ k = pm ∨ k = m) w nb e0 (fun _ => e0) 0 := by
  have n1 : nb ≠ pb := fun e => by rw [e, hP.c0] at c0; cases c0
  have n2 : nb ≠ pm := fun e => by rw [e, hP.own.no_cell] at c0; cases c0
  have n3 : nb ≠ m := fun e => by rw [e, hq.no_cell] at c0; cases c0
  have n4 : m ≠ pb := fun e => by have := hq.no_cell 0; rw [e, hP.c0] at this; cases this
  have n5 := hP.ne
  have ltp := hP.lt
  refine ⟨fun k => if k = nb then .base else if k = pb ∨ k = pm then .pool else if k = m then .wmap else .no, pb, pm, m, fun _ => false, fun _ => 0, fun _ => 0, fun k => ?_, ⟨c0, c1, f0, if_pos rfl, ?_, ?_, ?_, hP, fun c hc => (by cases hc), fun k hk => ?_⟩, hq, fun _ _ => rfl, fun c hc => (by cases hc)⟩
  · show _ ↔ (if k = nb then Tg.base else if k = pb ∨ k = pm then .pool else if k = m then .wmap else .no) ≠ .no
    by_cases e1 : k = nb
    · rw [if_pos e1]; exact ⟨fun _ e => (by cases e), fun _ => .inl e1⟩
    · rw [if_neg e1]
      by_cases e2 : k = pb ∨ k = pm
      · rw [if_pos e2]; exact ⟨fun _ e => (by cases e), fun _ => .inr (e2.elim .inl (fun e => .inr (.inl e)))⟩
      · rw [if_neg e2]
        by_cases e3 : k = m
        · rw [if_pos e3]; exact ⟨fun _ e => (by cases e), fun _ => .inr (.inr (.inr e3))⟩
        · rw [if_neg e3]; exact ⟨fun g => by omega, fun g => absurd rfl g⟩
  · show (if pb = nb then Tg.base else if pb = pb ∨ pb = pm then .pool else if pb = m then .wmap else .no) = .pool
    rw [if_neg n1.symm, if_pos (.inl rfl)]
  · show (if pm = nb then Tg.base else if pm = pb ∨ pm = pm then .pool else if pm = m then .wmap else .no) = .pool
    rw [if_neg n2.symm, if_pos (.inr rfl)]
  · show (if m = nb then Tg.base else if m = pb ∨ m = pm then .pool else if m = m then .wmap else .no) = .wmap
    rw [if_neg n3.symm, if_neg (by omega), if_pos rfl]
  · have lb := cell_lt (a := ⟨nb, 0, none⟩) c0
    have lm := hq.lt
    have hk' : (if k = nb then Tg.base else if k = pb ∨ k = pm then .pool else if k = m then .wmap else .no) ≠ .no := hk
    by_cases e1 : k = nb
    · rw [e1]; exact lb
    · rw [if_neg e1] at hk'
      by_cases e2 : k = pb ∨ k = pm
      · omega
      · rw [if_neg e2] at hk'
        by_cases e3 : k = m
        · rw [e3]; exact lm
        · rw [if_neg e3] at hk'; exact absurd rfl hk'
theorem PSk.registered {F : Nat → Prop} {G : Int → Nat → Prop} {bb : Int → Nat} {w w3 : World} {sb g k : Nat} {S : Sk} (hS : S.Ok) (hf : ∀ k, F k ↔ k = sb ∨ ∃ b, G b k) (h : PSkAt G bb w sb S (fun _ => g)) (hk : k < 3) (hr : S.R k = false) {G' : Nat → Prop} {nb : Nat}
    (hB3 : Below w.heap.size w w3) (hB : Bkr G' w3 nb e0 (fun _ => e0) 0) (hG : ∀ k, G' k → w.heap.size ≤ k) (hc : S.regC k = 0) :
    ∃ F', PSk F' (w3.setCell ⟨sb, k, none⟩ (.pointer (some ⟨nb, 0, none⟩))) sb (S.reg k) (g + 4) ∧ Moved F F' w (w3.setCell ⟨sb, k, none⟩ (.pointer (some ⟨nb, 0, none⟩))) := by
  have hs := h.base
  have h3 := h.below hB3
  have K : KeptP (fun i => i = sb) w3 (w3.setCell ⟨sb, k, none⟩ (.pointer (some ⟨nb, 0, none⟩))) := (KeptP.refl (fun i => i = sb) w3).setCell (p := ⟨sb, k, none⟩) rfl _
  have ec : S.reg k = ⟨set1 S.R k true, S.P, S.K, S.W⟩ := if_pos hc
  have pe : S.P k = e0 := hS.pout k hr
  have we : S.W k = fun _ => e0 := funext fun c => hS.wout k c (fun g => by rw [(hS.kin _ g).1] at hr; cases hr)
  rw [ec]
  refine ⟨owns (set1 G k G') sb, ⟨set1 G k G', set1 bb k nb, fun _ => Iff.rfl, fun i hi => ?_, fun i hi => ?_, fun i hi => ?_, fun i hi j gj => ?_, fun i j x gi gj => ?_, fun i x gx => ?_⟩, ⟨?_, fun x hx gx => (hf x).2 ?_⟩⟩
  · by_cases e : i = k
    · subst e
      rw [World.cell?_setCell_same _ _ _ (h3.c i hi)]
      show _ = some (Value.pointer (if set1 S.R i true i = true then some ⟨set1 bb i nb i, 0, none⟩ else none))
      rw [set1_same, set1_same, if_pos rfl]
    · rw [World.cell?_setCell_other _ _ _ _ (by intro h; cases h; exact e rfl)]
      have ei : (i : Int) ≠ k := by omega
      show _ = some (Value.pointer (if set1 S.R k true i = true then some ⟨set1 bb k nb i, 0, none⟩ else none))
      rw [set1_other _ _ _ _ ei, set1_other _ _ _ _ ei]
      exact h3.c i hi
  · rw [World.frozen?_setCell]; exact h3.f i hi
  · by_cases e : i = k
    · subst e
      rw [set1_same, set1_same]
      show Bkr G' _ nb (S.P k) (S.W k) (g + 4)
      rw [pe, we]
      exact (hB.keptP K (fun j ej gj => by have := hG j gj; omega)).more (by omega)
    · rw [set1_other _ _ _ _ e, set1_other _ _ _ _ e]
      have hi' : S.R i = true := by have h1 : set1 S.R k true i = true := hi; rw [set1_other _ _ _ _ e] at h1; exact h1
      exact ((h3.bk i hi').keptP K (fun j ej gj => h.nsb i j gj ej)).more (by omega)
  · have h1 : set1 S.R k true i = false := hi
    have e : i ≠ k := fun e => by rw [e, set1_same] at h1; cases h1
    rw [set1_other _ _ _ _ e] at h1 gj
    exact h.out i h1 j gj
  · by_cases e : i = k <;> by_cases e2 : j = k
    · rw [e, e2]
    · rw [e, set1_same] at gi
      rw [set1_other _ _ _ _ e2] at gj
      have := hG x gi
      have := h.lt gj
      omega
    · rw [e2, set1_same] at gj
      rw [set1_other _ _ _ _ e] at gi
      have := hG x gj
      have := h.lt gi
      omega
    · rw [set1_other _ _ _ _ e] at gi
      rw [set1_other _ _ _ _ e2] at gj
      exact h.apart i j x gi gj
  · by_cases e : i = k
    · rw [e, set1_same] at gx
      have := hG x gx
      omega
    · rw [set1_other _ _ _ _ e] at gx
      exact h.nsb i x gx
  · exact (KeptP.of_below hB3).trans K (fun i _ e => (hf i).2 (.inl e))
  · rcases gx with e | ⟨i, gi⟩
    · exact .inl e
    · by_cases e : i = k
      · rw [e, set1_same] at gi
        have := hG x gi
        omega
      · rw [set1_other _ _ _ _ e] at gi
        exact .inr ⟨i, gi⟩
theorem own_fresh (w : World) : OwnQ (w.alloc (.map #[] 0)) w.heap.size (fun _ => false) (fun _ => 0) 0 := ⟨0, .map [], World.ownsMap_made w _ _ _, Nat.le_refl _, fun _ => rfl, fun _ h => (by cases h)⟩
/-- an act's end: a code, the stakes that come of it -/
def ActEnd (F : Nat → Prop) (sb g : Nat) (S' : Sk) (c : Int) (A : Nat → Addr) (w : World) (e : Ending) (w' : World) : Prop := ∃ ev F', e = .returned ev ∧ ErrIs A ev c ∧ PSk F' w' sb S' (g + 4) ∧ Moved F F' w w'
theorem ActEnd.of {F : Nat → Prop} {sb g : Nat} {S' : Sk} {c : Int} {A : Nat → Addr} {w w' : World} {ev : Value} (hE : ErrIs A ev c) (h : ∃ F', PSk F' w' sb S' (g + 4) ∧ Moved F F' w w') : ActEnd F sb g S' c A w (.returned ev) w' := by
  obtain ⟨F', h1, h2⟩ := h
  exact ⟨ev, F', rfl, hE, h1, h2⟩
theorem slot_kept {w w' : World} {a : Addr} {v : Value} (hB : Below w.heap.size w w') (hc : w.cell? a = some v) (hf : w.frozen? a = false) : w'.cell? a = some v ∧ w'.frozen? a = false := by
  refine ⟨old_cell hB hc, ?_⟩
  rw [hB.frozen (cell_lt hc)]; exact hf
theorem slot_alloc {w : World} {a : Addr} {v : Value} (hc : w.cell? a = some v) (hf : w.frozen? a = false) (o : Obj) : (w.alloc o).cell? a = some v ∧ (w.alloc o).frozen? a = false := slot_kept ((Below.refl _ _).alloc (Nat.le_refl _) _) hc hf
/-- a new baker in memory, its map made behind its pool, or ahead of it -/
theorem new_baker1 {F : Nat → Prop} {G : Int → Nat → Prop} {bb : Int → Nat} {w w2 : World} {sb g k pb pm : Nat} {S : Sk} (hS : S.Ok) (hf : ∀ k, F k ↔ k = sb ∨ ∃ b, G b k) (h : PSkAt G bb w sb S (fun _ => g)) (hk : k < 3) (hr : S.R k = false) (hc : S.regC k = 0) (hB : Below w.heap.size w w2)
    (hpb : w.heap.size ≤ pb) (hpm : w.heap.size ≤ pm) (hP : PoolAt w2 pb pm ⟨0, fun _ => 0⟩ 0) (t : TypeId) :
    ∃ F', PSk F' (((w2.alloc (.map #[] 0)).alloc (.cells #[.pointer (some ⟨pb, 0, none⟩), .map (some w2.heap.size)] t)).setCell ⟨sb, k, none⟩ (.pointer (some ⟨w2.heap.size + 1, 0, none⟩))) sb (S.reg k) (g + 4) ∧
      Moved F F' w (((w2.alloc (.map #[] 0)).alloc (.cells #[.pointer (some ⟨pb, 0, none⟩), .map (some w2.heap.size)] t)).setCell ⟨sb, k, none⟩ (.pointer (some ⟨w2.heap.size + 1, 0, none⟩))) := by
  have hs := hB.size
  have lt := hP.lt
  have e1 : (w2.alloc (.map #[] 0)).heap.size = w2.heap.size + 1 := by simp
  have B1 : Below w2.heap.size w2 (w2.alloc (.map #[] 0)) := (Below.refl _ _).alloc (Nat.le_refl _) _
  have B2 : Below (w2.alloc (.map #[] 0)).heap.size (w2.alloc (.map #[] 0)) ((w2.alloc (.map #[] 0)).alloc (.cells #[.pointer (some ⟨pb, 0, none⟩), .map (some w2.heap.size)] t)) := (Below.refl _ _).alloc (Nat.le_refl _) _
  have B3 : Below w.heap.size w ((w2.alloc (.map #[] 0)).alloc (.cells #[.pointer (some ⟨pb, 0, none⟩), .map (some w2.heap.size)] t)) := (hB.alloc hs _).alloc (by omega) _
  have hP3 := (hP.keptP (KeptP.of_below (F := fun _ => False) B1) (fun g => g) (fun g => g)).keptP (KeptP.of_below (F := fun _ => False) B2) (fun g => g) (fun g => g)
  have hq3 := (own_fresh w2).of_block (B2.block w2.heap.size (by omega))
  refine PSk.registered hS hf h hk hr B3 (bkr_fresh (pm := pm) (cell_new _ _ _ _ _ _ e1.symm rfl) (cell_new _ _ _ _ _ _ e1.symm rfl) (World.frozen?_alloc_at _ _ _ _ e1.symm) hP3 hq3 (by omega)) (fun i hi => ?_) hc
  omega
theorem new_baker2 {F : Nat → Prop} {G : Int → Nat → Prop} {bb : Int → Nat} {w w2 : World} {sb g k pb pm : Nat} {S : Sk} (hS : S.Ok) (hf : ∀ k, F k ↔ k = sb ∨ ∃ b, G b k) (h : PSkAt G bb w sb S (fun _ => g)) (hk : k < 3) (hr : S.R k = false) (hc : S.regC k = 0) (hB : Below (w.alloc (.map #[] 0)).heap.size (w.alloc (.map #[] 0)) w2)
    (hpb : (w.alloc (.map #[] 0)).heap.size ≤ pb) (hpm : (w.alloc (.map #[] 0)).heap.size ≤ pm) (hP : PoolAt w2 pb pm ⟨0, fun _ => 0⟩ 0) (t : TypeId) :
    ∃ F', PSk F' ((w2.alloc (.cells #[.pointer (some ⟨pb, 0, none⟩), .map (some w.heap.size)] t)).setCell ⟨sb, k, none⟩ (.pointer (some ⟨w2.heap.size, 0, none⟩))) sb (S.reg k) (g + 4) ∧
      Moved F F' w ((w2.alloc (.cells #[.pointer (some ⟨pb, 0, none⟩), .map (some w.heap.size)] t)).setCell ⟨sb, k, none⟩ (.pointer (some ⟨w2.heap.size, 0, none⟩))) := by
  have hs := hB.size
  have lt := hP.lt
  have e1 : (w.alloc (.map #[] 0)).heap.size = w.heap.size + 1 := by simp
  have B0 : Below w.heap.size w (w.alloc (.map #[] 0)) := (Below.refl _ _).alloc (Nat.le_refl _) _
  have B1 : Below w.heap.size w w2 := B0.trans (hB.mono (by omega))
  have B2 : Below w2.heap.size w2 (w2.alloc (.cells #[.pointer (some ⟨pb, 0, none⟩), .map (some w.heap.size)] t)) := (Below.refl _ _).alloc (Nat.le_refl _) _
  have B3 : Below w.heap.size w (w2.alloc (.cells #[.pointer (some ⟨pb, 0, none⟩), .map (some w.heap.size)] t)) := B1.alloc B1.size _
  have hP3 := hP.keptP (KeptP.of_below (F := fun _ => False) B2) (fun g => g) (fun g => g)
  have hq3 := ((own_fresh w).of_block (hB.block w.heap.size (by omega))).of_block (B2.block w.heap.size (by omega))
  refine PSk.registered hS hf h hk hr B3 (bkr_fresh (pm := pm) (cell_new _ _ _ _ _ _ rfl rfl) (cell_new _ _ _ _ _ _ rfl rfl) (World.frozen?_alloc_at _ _ _ _ rfl) hP3 hq3 (by omega)) (fun i hi => ?_) hc
  omega
set_option maxRecDepth 100000 in
set_option maxHeartbeats 2000000 in
theorem ps_register (F : Nat → Prop) (sb : Nat) (S : Sk) (hS : S.Ok) (g : Nat) (_hg : g ≤ 900000) (b : Int) (A : Nat → Addr) (w : World) (hL : StkLaid w A) (h : PSk F w sb S g) :
    Calls Tryd.prog 24 #[.pointer (some ⟨sb, 0, none⟩), .int .i64 b] w (ActEnd F sb g (S.reg b) (S.regC b) A w) := by
  obtain ⟨G, bb, hf, h⟩ := h
  have I := is_at G bb sb S hS _ b w h
  have v1 := hL.v1
  have v4 := hL.v4
  by_cases hb : Bk b
  · have B := baker_yes b hb.1 hb.2
    cases hr : S.R b with
    | true =>
      have hc : S.regC b = 5 := by unfold Sk.regC; rw [if_neg (fun g => g hb), hr]; rfl
      have HC := hide hc
      have HE := hide (show S.reg b = S from if_neg (by omega))
      rw [hr] at I
      clear hr hb hc
      go_enter Tryd.func24, Tryd.ntmps24
      go_wp2_with (first | (go_at_call 39; refine (B _).mono ?_; rintro e w' ⟨rfl, rfl⟩) | (go_at_call 40; refine I.mono ?_; rintro e w' ⟨rfl, rfl⟩))
      go_ret
      exact ActEnd.of (ErrIs.is 4 (by omega) HC.out) (by rw [HE.out]; exact PSk.same hf h (Below.refl _ _))
    | false =>
      have hc : S.regC b = 0 := by unfold Sk.regC; rw [if_neg (fun g => g hb), hr]; rfl
      rw [hr] at I
      obtain ⟨b0, b3⟩ := hb
      obtain ⟨k, rfl⟩ : ∃ k : Nat, b = k := ⟨b.toNat, by omega⟩
      have hk : k < 3 := by omega
      have hc0 := h.c k hk
      rw [hr] at hc0
      simp only [Bool.false_eq_true, if_false] at hc0
      have f0 := h.f k hk
      have HC := hide hc
      have HR := hide hr
      have hmm := @run_makeMap Tryd.prog
      have hsz := h.base
      clear hr hc
      go_enter Tryd.func24, Tryd.ntmps24
      go_wp2_with (first | (go_at_call 39; refine (B _).mono ?_; rintro e w' ⟨rfl, rfl⟩) | (go_at_call 40; refine I.mono ?_; rintro e w' ⟨rfl, rfl⟩))
      go_region_held3 (fun _ => True) (exact trivial)
        ((go_at_call 41; refine (prog_new _).mono ?_; rintro e w2 ⟨pb, pm, rfl, hpb, hpm, hP2, hB2⟩; have d0 : w2.cell? ⟨sb, k, none⟩ = some (.pointer none) ∧ w2.frozen? ⟨sb, k, none⟩ = false := (by first | exact slot_kept (w := w') (below_of_drew hB2) hc0 f0 | exact slot_kept (w := w'.alloc (.map #[] 0)) (below_of_drew hB2) (slot_alloc hc0 f0 _).1 (slot_alloc hc0 f0 _).2); have d1 : ∀ o, (w2.alloc o).cell? ⟨sb, k, none⟩ = some (.pointer none) := (fun o => (slot_alloc d0.1 d0.2 o).1); have d2 : ∀ o, (w2.alloc o).frozen? ⟨sb, k, none⟩ = false := (fun o => (slot_alloc d0.1 d0.2 o).2); have d3 : ∀ o o', ((w2.alloc o).alloc o').cell? ⟨sb, k, none⟩ = some (.pointer none) := (fun o o' => (slot_alloc (d1 o) (d2 o) o').1); have d4 : ∀ o o', ((w2.alloc o).alloc o').frozen? ⟨sb, k, none⟩ = false := (fun o o' => (slot_alloc (d1 o) (d2 o) o').2)))
      · go_wp2
        go_ret
        exact ActEnd.of (ErrIs.no HC.out) (new_baker1 hS hf h hk HR.out HC.out (below_of_drew hB2) hpb hpm hP2 _)
      · go_wp2
        go_ret
        exact ActEnd.of (ErrIs.no HC.out) (new_baker2 hS hf h hk HR.out HC.out (below_of_drew hB2) hpb hpm hP2 _)
  · have B := baker_no b hb
    have hc : S.regC b = 2 := if_pos hb
    have HC := hide hc
    have HE := hide (show S.reg b = S from if_neg (by omega))
    clear hb hc
    go_enter Tryd.func24, Tryd.ntmps24
    go_wp2_with (go_at_call 39; refine (B _).mono ?_; rintro e w' ⟨rfl, rfl⟩)
    go_ret
    exact ActEnd.of (ErrIs.is 1 (by omega) HC.out) (by rw [HE.out]; exact PSk.same hf h (Below.refl _ _))

/-! acts on a baker's pool -/
set_option maxRecDepth 100000 in
theorem ps_join (F : Nat → Prop) (sb : Nat) (S : Sk) (hS : S.Ok) (g : Nat) (hg : g ≤ 900000) (o b n : Int) (wo : (Lit.int .i64 o).wf = true) (A : Nat → Addr) (w : World) (hL : StkLaid w A) (h : PSk F w sb S g) :
    Calls Tryd.prog 28 #[.pointer (some ⟨sb, 0, none⟩), .int .i64 o, .int .i64 b, .int .i64 n] w (ActEnd F sb g (S.join o b n) (S.joinC o b n) A w) := by
  obtain ⟨G, bb, hf, h⟩ := h
  cases hr : S.R b with
  | true =>
    have C := find_yes G bb sb S hS _ b hr w h
    obtain ⟨tag, p, pm, wm, H, q, qm, hF, hb, hq, h0, hcy⟩ := h.bk b hr
    have c0 := hb.c0
    have T := prog_join p pm _ _ (hS.pok b) o n wo (by omega) A true w hL.pool hb.pool
    have e1 : Hid (S.joinC o b n = (S.P b).joinC o n) := if_pos hr
    have e2 : Hid (S.join o b n = ⟨S.R, set1 S.P b ((S.P b).join o n), S.K, S.W⟩) := if_pos hr
    have HR := hide hr
    have HB := hide hb
    clear hr hb
    go_enter Tryd.func28, Tryd.ntmps28
    go_wp2_with (go_at_call 42; refine C.mono ?_; rintro e w' ⟨rfl, rfl⟩)
    refine T.mono ?_
    rintro e w1 ⟨ev, rfl, hE, hP1, hK1⟩
    go_wp2
    go_ret
    obtain ⟨hB1, hM1⟩ := Bkr.poolTurned hF HB.out hq h0 hcy hP1 hK1
    rw [e1.out, e2.out]
    exact ActEnd.of hE (PSk.turned hf h HR.out hB1 hM1 (fun _ => rfl) (set1_same ..) rfl (fun i hi => set1_other _ _ _ _ hi) (fun _ _ => rfl))
  | false =>
    have C := find_no G bb sb S _ b hr w h
    have v3 := hL.v3
    have e1 : Hid (S.joinC o b n = 4) := if_neg (by rw [hr]; decide)
    have e2 : Hid (S.join o b n = S) := if_neg (by rw [hr]; decide)
    clear hr
    go_enter Tryd.func28, Tryd.ntmps28
    go_wp2_with (go_at_call 42; refine C.mono ?_; rintro e w' ⟨rfl, rfl⟩)
    go_ret
    exact ActEnd.of (ErrIs.is 3 (by omega) e1.out) (by rw [e2.out]; exact PSk.same hf h (Below.refl _ _))
set_option maxRecDepth 100000 in
theorem ps_add (F : Nat → Prop) (sb : Nat) (S : Sk) (hS : S.Ok) (g : Nat) (_hg : g ≤ 900000) (b n : Int) (A : Nat → Addr) (w : World) (hL : StkLaid w A) (h : PSk F w sb S g) :
    Calls Tryd.prog 59 #[.pointer (some ⟨sb, 0, none⟩), .int .i64 b, .int .i64 n] w (ActEnd F sb g (S.add b n) (S.addC b n) A w) := by
  obtain ⟨G, bb, hf, h⟩ := h
  cases hr : S.R b with
  | true =>
    have C := find_yes G bb sb S hS _ b hr w h
    obtain ⟨tag, p, pm, wm, H, q, qm, hF, hb, hq, h0, hcy⟩ := h.bk b hr
    have c0 := hb.c0
    have T := prog_add p pm _ _ (hS.pok b) n A true w hL.pool hb.pool
    have e1 : Hid (S.addC b n = (S.P b).addC n) := if_pos hr
    have e2 : Hid (S.add b n = ⟨S.R, set1 S.P b ((S.P b).add n), S.K, S.W⟩) := if_pos hr
    have HR := hide hr
    have HB := hide hb
    clear hr hb
    go_enter Tryd.func59, Tryd.ntmps59
    go_wp2_with (go_at_call 42; refine C.mono ?_; rintro e w' ⟨rfl, rfl⟩)
    refine T.mono ?_
    rintro e w1 ⟨ev, rfl, hE, hP1, hK1⟩
    go_wp2
    go_ret
    obtain ⟨hB1, hM1⟩ := Bkr.poolTurned hF HB.out hq h0 hcy hP1 hK1
    rw [e1.out, e2.out]
    exact ActEnd.of hE (PSk.turned hf h HR.out hB1 hM1 (fun _ => rfl) (set1_same ..) rfl (fun i hi => set1_other _ _ _ _ hi) (fun _ _ => rfl))
  | false =>
    have C := find_no G bb sb S _ b hr w h
    have v3 := hL.v3
    have e1 : Hid (S.addC b n = 4) := if_neg (by rw [hr]; decide)
    have e2 : Hid (S.add b n = S) := if_neg (by rw [hr]; decide)
    clear hr
    go_enter Tryd.func59, Tryd.ntmps59
    go_wp2_with (go_at_call 42; refine C.mono ?_; rintro e w' ⟨rfl, rfl⟩)
    go_ret
    exact ActEnd.of (ErrIs.is 3 (by omega) e1.out) (by rw [e2.out]; exact PSk.same hf h (Below.refl _ _))
theorem set2_row {α : Type} (f : Int → Int → α) (b c : Int) (v : α) : set2 f b c v b = set1 (f b) c v := by
  funext j
  unfold set2 set1
  by_cases e : j = c
  · rw [if_pos ⟨rfl, e⟩, if_pos e]
  · rw [if_neg (fun g => e g.2), if_neg e]
theorem set2_rows {α : Type} (f : Int → Int → α) (b c : Int) (v : α) (i : Int) (h : i ≠ b) : set2 f b c v i = f i := funext fun _ => if_neg fun g => h g.1
/-- an act's end that tells a number too -/
def ActEndN (F : Nat → Prop) (sb g : Nat) (S' : Sk) (n c : Int) (A : Nat → Addr) (w : World) (e : Ending) (w' : World) : Prop := ∃ ev F', e = .returned (.tuple #[.int .i64 n, ev]) ∧ ErrIs A ev c ∧ PSk F' w' sb S' (g + 4) ∧ Moved F F' w w'
theorem ActEndN.of {F : Nat → Prop} {sb g : Nat} {S' : Sk} {n n' c : Int} {A : Nat → Addr} {w w' : World} {ev : Value} (hn : n' = n) (hE : ErrIs A ev c) (h : ∃ F', PSk F' w' sb S' (g + 4) ∧ Moved F F' w w') : ActEndN F sb g S' n c A w (.returned (.tuple #[.int .i64 n', ev])) w' := by
  obtain ⟨F', h1, h2⟩ := h
  exact ⟨ev, F', by rw [hn], hE, h1, h2⟩
/-! slashing writes no map -/
set_option maxRecDepth 100000 in
set_option maxHeartbeats 1000000 in
theorem prog_slash0 (b m g : Nat) (x : St) (hx : x.Ok) (p : Int) (A : Nat → Addr) (sh : Bool) (w : World) (hL : PoolLaid w A sh) (h : PoolAt w b m x g) :
    Calls Tryd.prog 83 #[.pointer (some ⟨b, 0, none⟩), .int .i64 p] w fun e w' => ∃ ev, e = .returned (.tuple #[.int .i64 (x.slashN p), ev]) ∧ ErrIs A ev (x.slashC p) ∧ PoolAt w' b m (x.slash p) g ∧ Kept [b, m] w w' := by
  have c0 := h.c0
  have f0 := h.f0
  have t0 := hx.t0
  have t1 := hx.t1
  have v1 := hL.v1
  by_cases hp : 0 ≤ p ∧ p ≤ 100
  · have e1 := hide (St.slash_yes (x := x) hp)
    have bd := hx.slashN_bd p
    rw [e1.out.2.1] at bd
    have P := down_yes x.T p 100 ⟨t0, t1, hp.1, by omega, by omega, by omega⟩ (by omega)
    obtain ⟨p0, p1⟩ := hp
    go_enter Tryd.func83, Tryd.ntmps83
    go_wp2_with (go_at_call 74; refine (P _).mono ?_; rintro e w' ⟨rfl, n, rfl⟩)
    go_ret2
    refine ⟨.nilIface, ret_pair e1.out.2.1.symm _, ErrIs.no e1.out.1, by rw [e1.out.2.2]; exact (h.drewN n).setT _, ((Kept.refl _ _).drewN n).setCell (by simp) _⟩
  · have e1 := hide (St.slash_no (x := x) hp)
    by_cases p0 : 0 ≤ p
    · have p1 : 100 < p := by omega
      clear hp
      go_enter Tryd.func83, Tryd.ntmps83
      go_wp2
      go_quiet (fail)
      go_wp2
      go_ret2
      exact ⟨sent (A 1), ret_pair e1.out.2.1.symm _, ErrIs.is 1 (by omega) e1.out.1, h.stayN e1.out.2.2 (Nat.le_refl _) _⟩
    · clear hp
      go_enter Tryd.func83, Tryd.ntmps83
      go_wp2
      go_quiet (fail)
      go_wp2
      go_ret2
      exact ⟨sent (A 1), ret_pair e1.out.2.1.symm _, ErrIs.is 1 (by omega) e1.out.1, h.stayN e1.out.2.2 (Nat.le_refl _) _⟩
theorem slash_fold (S : Sk) (b f p : Int) : (sumK S.K fun b' c' => if b' = b then slN (S.W b) f p b' c' else 0) = sumK S.K fun b' c' => if b' = b ∧ f ≤ c' then (S.W b' c').slashN p else 0 := by
  refine sumK_congr _ fun k _ => ?_
  by_cases e : k.1 = b
  · rw [if_pos e]
    show (if f ≤ k.2 then (S.W b k.2).slashN p else 0) = _
    by_cases e2 : f ≤ k.2
    · rw [if_pos e2, if_pos ⟨e, e2⟩, e]
    · rw [if_neg e2, if_neg (fun g => e2 g.2)]
  · rw [if_neg e, if_neg (fun g => e g.1)]
set_option maxRecDepth 100000 in
set_option maxHeartbeats 1000000 in
theorem ps_slash (F : Nat → Prop) (sb : Nat) (S : Sk) (hS : S.Ok) (hK : S.K.length ≤ 900) (g : Nat) (hg : g ≤ 900000) (b f p : Int) (wf : (Lit.int .i64 f).wf = true) (A : Nat → Addr) (w : World) (hL : StkLaid w A) (h : PSk F w sb S g) :
    Calls Tryd.prog 76 #[.pointer (some ⟨sb, 0, none⟩), .int .i64 b, .int .i64 f, .int .i64 p] w (ActEndN F sb g (S.slash b f p) (S.slashN b f p) (S.slashC b p) A w) := by
  obtain ⟨G, bb, hf, h⟩ := h
  have v3 := hL.v3
  cases hr : S.R b with
  | true =>
    have C := find_yes G bb sb S hS _ b hr w h
    obtain ⟨tag, q0, qm0, wm, H, q, qm, hF, hb, hq, h0, hcy⟩ := h.bk b hr
    have c0 := hb.c0
    have T := prog_slash0 q0 qm0 g (S.P b) (hS.pok b) p A true w hL.pool hb.pool
    by_cases hp : 0 ≤ p ∧ p ≤ 100
    · have e1 : Hid (S.slashC b p = 0) := (if_pos hr).trans (if_pos hp)
      have e2 : Hid (S.slashN b f p = (S.P b).slashN p + sumK S.K (fun b' c' => if b' = b ∧ f ≤ c' then (S.W b' c').slashN p else 0)) := if_pos e1.out
      have e3 : Hid (S.slash b f p = ⟨S.R, set1 S.P b ((S.P b).slash p), S.K, fun b' c' => if b' = b ∧ f ≤ c' then (S.W b' c').slash p else S.W b' c'⟩) := if_pos e1.out
      have EC := hide (St.slash_yes (x := S.P b) hp).1
      have nb := (hS.pok b).slashN_bd p
      have nt := (hS.pok b).t1
      have HR := hide hr
      have HB := hide hb
      have sN : ∀ c : Int, 0 ≤ (S.W b c).slashN p ∧ (S.W b c).slashN p ≤ 1125899906842624 := fun c => by
        have := (hS.wok b c).slashN_bd p
        have := (hS.wok b c).t1
        omega
      have s0 : 0 ≤ (sumK S.K fun b' c' => if b' = b then slN (S.W b) f p b' c' else 0) := sumK_nonneg S.K fun k _ => by
        show 0 ≤ (if k.1 = b then (if f ≤ k.2 then (S.W b k.2).slashN p else 0) else 0)
        have := sN k.2
        split
        · split <;> omega
        · omega
      have s1 : (sumK S.K fun b' c' => if b' = b then slN (S.W b) f p b' c' else 0) ≤ S.K.length * 1125899906842624 := sumK_le S.K fun k _ => by
        show (if k.1 = b then (if f ≤ k.2 then (S.W b k.2).slashN p else 0) else 0) ≤ 1125899906842624
        have := sN k.2
        split
        · split <;> omega
        · omega
      have s2 : (sumK S.K fun b' c' => if b' = b then slN (S.W b) f p b' c' else 0) ≤ 1013309916158361600 := by omega
      have hn2 : (S.P b).slashN p ≤ 1125899906842624 := by omega
      have hn0 := nb.1
      have SF := hide (slash_fold S b f p)
      clear hr hb s1 nb nt sN
      go_enter Tryd.func76, Tryd.ntmps76
      go_wp2_with (go_at_call 42; refine C.mono ?_; rintro e w' ⟨rfl, rfl⟩)
      refine T.mono ?_
      rintro e w1 ⟨ev, rfl, hE, hP1, hK1⟩
      obtain rfl := hE.nil EC.out
      obtain ⟨hB1, hM1⟩ := Bkr.poolTurned0 hF HB.out hq h0 hcy hP1 hK1
      have L1 := hL.pool.kept HB.out.pool.apart hK1
      go_wp2_with fail
      refine (bk_slash (G b) (bb b) g _ (S.W b) (hS.wok b) hg f p hp wf S.K hS.knd hK b (fun c hc => hS.wout b c hc) A w1 L1 hB1).mono ?_
      rintro e w2 ⟨rfl, hB2, hM2⟩
      rw [← SF.out] at e2
      generalize (sumK S.K fun b' c' => if b' = b then slN (S.W b) f p b' c' else 0) = z at *
      go_wp2
      go_ret2
      refine ActEndN.of e2.out.symm (ErrIs.no e1.out) ?_
      rw [e3.out]
      refine PSk.turned hf h HR.out hB2 (hM1.trans hM2) (fun _ => rfl) (set1_same ..) ?_ (fun i hi => set1_other _ _ _ _ hi) (fun i hi => ?_)
      · funext c
        show (if b = b ∧ f ≤ c then (S.W b c).slash p else S.W b c) = (if f ≤ c then (S.W b c).slash p else S.W b c)
        by_cases e : f ≤ c
        · rw [if_pos ⟨rfl, e⟩, if_pos e]
        · rw [if_neg (fun g => e g.2), if_neg e]
      · funext c
        exact if_neg (fun g => hi g.1)
    · have e1 : Hid (S.slashC b p = 2) := (if_pos hr).trans (if_neg hp)
      have e2 : Hid (S.slashN b f p = 0) := if_neg (by rw [e1.out]; decide)
      have e3 : Hid (S.slash b f p = S) := if_neg (by rw [e1.out]; decide)
      have ES := hide (St.slash_no (x := S.P b) hp)
      have HR := hide hr
      have HB := hide hb
      clear hr hb hp
      go_enter Tryd.func76, Tryd.ntmps76
      go_wp2_with (go_at_call 42; refine C.mono ?_; rintro e w' ⟨rfl, rfl⟩)
      refine T.mono ?_
      rintro e w1 ⟨ev, rfl, hE, hP1, hK1⟩
      rw [ES.out.1, ← e1.out] at hE
      obtain ⟨i, rfl⟩ := hE.err (by rw [e1.out]; decide)
      rw [ES.out.2.2] at hP1
      obtain ⟨hB1, hM1⟩ := Bkr.poolTurned hF HB.out hq h0 hcy (hP1.more (Nat.le_add_right _ 4)) hK1
      go_wp2
      go_ret2
      refine ActEndN.of e2.out.symm hE ?_
      rw [e3.out]
      exact PSk.turned hf h HR.out hB1 hM1 (fun _ => rfl) rfl rfl (fun _ _ => rfl) (fun _ _ => rfl)
  | false =>
    have C := find_no G bb sb S _ b hr w h
    have e1 : Hid (S.slashC b p = 4) := if_neg (by rw [hr]; decide)
    have e2 : Hid (S.slashN b f p = 0) := if_neg (by rw [e1.out]; decide)
    have e3 : Hid (S.slash b f p = S) := if_neg (by rw [e1.out]; decide)
    clear hr
    go_enter Tryd.func76, Tryd.ntmps76
    go_wp2_with (go_at_call 42; refine C.mono ?_; rintro e w' ⟨rfl, rfl⟩)
    go_quiet (fail)
    go_wp2
    go_ret2
    exact ActEndN.of e2.out.symm (ErrIs.is 3 (by omega) e1.out) (by rw [e3.out]; exact PSk.same hf h (below_drewN (Below.refl _ _) _))
end Go.Proofs.YtaihcceobnfmhaaDoor
