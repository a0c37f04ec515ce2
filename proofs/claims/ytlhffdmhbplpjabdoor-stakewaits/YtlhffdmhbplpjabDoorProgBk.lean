/-
  A baker of the program's as it lies in memory: its pool, and a map of pools of what waits.
-/
import Derived.Test.YtlhffdmhbplpjabDoorPtrMap
import Derived.Test.YtlhffdmhbplpjabDoorProgActs
import Derived.Test.YtlhffdmhbplpjabDoorSides
namespace Go.Proofs.YtlhffdmhbplpjabDoor
open Go.RowKit Go.Maps

/-- a pool of whose shares none are there is empty -/
theorem St.Ok.empty {x : St} (h : x.Ok) (hA : x.A = 0) : x = e0 := by
  have hs : ∀ o, x.s o = 0 := fun o => by have := h.le_all o; have := h.pos o; omega
  obtain ⟨T, s⟩ := x
  have hT : T = 0 := h.none hA
  subst hT
  exact congrArg (St.mk 0) (funext hs)
theorem PoolAt.keptP {w w' : World} {b m g : Nat} {x : St} {F : Nat → Prop} (h : PoolAt w b m x g) (hK : KeptP F w w') (hb : ¬ F b) (hm : ¬ F m) : PoolAt w' b m x g where
  c0 := hK.old h.c0 hb
  c1 := hK.old h.c1 hb
  c2 := hK.old h.c2 hb
  f0 := by rw [hK.frozen (cell_lt h.c0) hb]; exact h.f0
  f1 := by rw [hK.frozen (cell_lt h.c1) hb]; exact h.f1
  own := by
    obtain ⟨n, D, ⟨es, clock, hes, F, hs, hD⟩, hn, hat⟩ := h.own
    have hlt : m < w.heap.size := (Array.getElem?_eq_some_iff.1 hes).1
    exact ⟨n, D, ⟨es, clock, (hK.block m hlt hm).trans hes, F, hs, hD⟩, hn, hat⟩
  ne := h.ne

/-- whose a block is: another's, the baker's own, its pool's, its map's, a pool's of what waits of a cycle -/
inductive Tg where
  | no
  | base
  | pool
  | wmap
  | wait (c : Int)
/-- a baker, as it lies in memory; which cycles have pools; how often their maps were written -/
structure BkAt (tag : Nat → Tg) (w : World) (bb p pm wm : Nat) (P : St) (g : Nat) (H : Int → Bool) (q qm : Int → Nat) (W : Int → St) (gw : Int → Nat) : Prop where
  c0 : w.cell? ⟨bb, 0, none⟩ = some (.pointer (some ⟨p, 0, none⟩))
  c1 : w.cell? ⟨bb, 1, none⟩ = some (.map (some wm))
  f0 : w.frozen? ⟨bb, 0, none⟩ = false
  tb : tag bb = .base
  tp : tag p = .pool
  tpm : tag pm = .pool
  tm : tag wm = .wmap
  pool : PoolAt w p pm P g
  wait : ∀ c, H c = true → tag (q c) = .wait c ∧ tag (qm c) = .wait c ∧ PoolAt w (q c) (qm c) (W c) (gw c)
  tin : ∀ k, tag k ≠ .no → k < w.heap.size
/-- a baker, and what blocks are its own -/
def Bkr (F : Nat → Prop) (w : World) (bb : Nat) (P : St) (W : Int → St) (g : Nat) : Prop :=
  ∃ tag p pm wm H q qm, (∀ k, F k ↔ tag k ≠ Tg.no) ∧ BkAt tag w bb p pm wm P g H q qm W (fun _ => g) ∧ OwnQ w wm H q g ∧ (∀ c, H c = false → W c = e0) ∧ ∀ c, H c = true → Cy c

section
variable {tag : Nat → Tg} {w w' : World} {bb p pm wm g : Nat} {P : St} {H : Int → Bool} {q qm : Int → Nat} {W : Int → St} {gw : Int → Nat}
theorem BkAt.keptP {F : Nat → Prop} (h : BkAt tag w bb p pm wm P g H q qm W gw) (hK : KeptP F w w') (hF : ∀ k, F k → tag k = .no) : BkAt tag w' bb p pm wm P g H q qm W gw := by
  have no : ∀ k, tag k ≠ .no → ¬ F k := fun k hk g => hk (hF k g)
  have nb := no bb (by rw [h.tb]; intro e; cases e)
  refine ⟨hK.old h.c0 nb, hK.old h.c1 nb, ?_, h.tb, h.tp, h.tpm, h.tm, h.pool.keptP hK (no p (by rw [h.tp]; intro e; cases e)) (no pm (by rw [h.tpm]; intro e; cases e)), fun c hc => ?_, fun k hk => Nat.lt_of_lt_of_le (h.tin k hk) hK.size⟩
  · rw [hK.frozen (p := ⟨bb, 0, none⟩) (cell_lt h.c0) nb]; exact h.f0
  · obtain ⟨t1, t2, hp⟩ := h.wait c hc
    exact ⟨t1, t2, hp.keptP hK (no _ (by rw [t1]; intro e; cases e)) (no _ (by rw [t2]; intro e; cases e))⟩
/-- only blocks that bear such a tag have turned -/
theorem BkAt.keptT {t : Tg} (_h : BkAt tag w bb p pm wm P g H q qm W gw) {X : List Nat} (hK : Kept X w w') (hX : ∀ k, k ∈ X → tag k = t) : KeptP (fun k => tag k = t) w w' := KeptP.of_kept hK hX
theorem BkAt.wm_kept {F : Nat → Prop} (h : BkAt tag w bb p pm wm P g H q qm W gw) (hK : KeptP F w w') (hF : ¬ F wm) : w'.heap[wm]? = w.heap[wm]? := hK.block wm (h.tin wm (by rw [h.tm]; intro e; cases e)) hF
/-- its pool turned -/
theorem BkAt.poolTurned (h : BkAt tag w bb p pm wm P g H q qm W gw) {P' : St} {g' : Nat} (hK : Kept [p, pm] w w') (hP : PoolAt w' p pm P' g') : BkAt tag w' bb p pm wm P' g' H q qm W gw ∧ KeptP (fun k => tag k = .pool) w w' := by
  have hT : KeptP (fun k => tag k = .pool) w w' := KeptP.of_kept hK fun k hk => by
    rcases List.mem_cons.1 hk with e | e
    · rw [e]; exact h.tp
    · rw [List.mem_singleton.1 e]; exact h.tpm
  have nb : ¬ tag bb = .pool := by rw [h.tb]; intro e; cases e
  refine ⟨⟨hT.old h.c0 nb, hT.old h.c1 nb, ?_, h.tb, h.tp, h.tpm, h.tm, hP, fun c hc => ?_, fun k hk => Nat.lt_of_lt_of_le (h.tin k hk) hT.size⟩, hT⟩
  · rw [hT.frozen (p := ⟨bb, 0, none⟩) (cell_lt h.c0) nb]; exact h.f0
  · obtain ⟨t1, t2, hp⟩ := h.wait c hc
    exact ⟨t1, t2, hp.keptP hT (by rw [t1]; intro e; cases e) (by rw [t2]; intro e; cases e)⟩
/-- what waits of a cycle turned -/
theorem BkAt.waitTurned (h : BkAt tag w bb p pm wm P g H q qm W gw) {c : Int} (hc : H c = true) {X : St} {g' : Nat} (hK : Kept [q c, qm c] w w') (hP : PoolAt w' (q c) (qm c) X g') :
    BkAt tag w' bb p pm wm P g H q qm (set1 W c X) (set1 gw c g') ∧ KeptP (fun k => tag k = .wait c) w w' := by
  obtain ⟨t1, t2, _⟩ := h.wait c hc
  have hT : KeptP (fun k => tag k = .wait c) w w' := KeptP.of_kept hK fun k hk => by
    rcases List.mem_cons.1 hk with e | e
    · rw [e]; exact t1
    · rw [List.mem_singleton.1 e]; exact t2
  have nb : ¬ tag bb = .wait c := by rw [h.tb]; intro e; cases e
  refine ⟨⟨hT.old h.c0 nb, hT.old h.c1 nb, ?_, h.tb, h.tp, h.tpm, h.tm, h.pool.keptP hT (by rw [h.tp]; intro e; cases e) (by rw [h.tpm]; intro e; cases e), fun d hd => ?_, fun k hk => Nat.lt_of_lt_of_le (h.tin k hk) hT.size⟩, hT⟩
  · rw [hT.frozen (p := ⟨bb, 0, none⟩) (cell_lt h.c0) nb]; exact h.f0
  · by_cases e : d = c
    · subst e
      rw [set1_same, set1_same]
      exact ⟨t1, t2, hP⟩
    · obtain ⟨u1, u2, hp⟩ := h.wait d hd
      rw [set1_other _ _ _ _ e, set1_other _ _ _ _ e]
      exact ⟨u1, u2, hp.keptP hT (by rw [u1]; intro e2; cases e2; exact e rfl) (by rw [u2]; intro e2; cases e2; exact e rfl)⟩
/-- fewer cycles have pools -/
theorem BkAt.fewer (h : BkAt tag w bb p pm wm P g H q qm W gw) {H' : Int → Bool} (hH : ∀ c, H' c = true → H c = true) : BkAt tag w bb p pm wm P g H' q qm W gw := ⟨h.c0, h.c1, h.f0, h.tb, h.tp, h.tpm, h.tm, h.pool, fun c hc => h.wait c (hH c hc), h.tin⟩
/-- the map itself turned -/
theorem BkAt.mapTurned (h : BkAt tag w bb p pm wm P g H q qm W gw) (hK : Kept [wm] w w') : BkAt tag w' bb p pm wm P g H q qm W gw ∧ KeptP (fun k => tag k = .wmap) w w' := by
  have hT : KeptP (fun k => tag k = .wmap) w w' := KeptP.of_kept hK fun k hk => by rw [List.mem_singleton.1 hk]; exact h.tm
  have nb : ¬ tag bb = .wmap := by rw [h.tb]; intro e; cases e
  refine ⟨⟨hT.old h.c0 nb, hT.old h.c1 nb, ?_, h.tb, h.tp, h.tpm, h.tm, h.pool.keptP hT (by rw [h.tp]; intro e; cases e) (by rw [h.tpm]; intro e; cases e), fun c hc => ?_, fun k hk => Nat.lt_of_lt_of_le (h.tin k hk) hT.size⟩, hT⟩
  · rw [hT.frozen (p := ⟨bb, 0, none⟩) (cell_lt h.c0) nb]; exact h.f0
  · obtain ⟨t1, t2, hp⟩ := h.wait c hc
    exact ⟨t1, t2, hp.keptP hT (by rw [t1]; intro e; cases e) (by rw [t2]; intro e; cases e)⟩
/-- as what waits reads -/
theorem BkAt.congr (h : BkAt tag w bb p pm wm P g H q qm W gw) {W' : Int → St} {gw' : Int → Nat} (hW : ∀ c, H c = true → W' c = W c) (hg : ∀ c, H c = true → gw c ≤ gw' c) : BkAt tag w bb p pm wm P g H q qm W' gw' :=
  ⟨h.c0, h.c1, h.f0, h.tb, h.tp, h.tpm, h.tm, h.pool, fun c hc => by
    obtain ⟨t1, t2, hp⟩ := h.wait c hc
    rw [hW c hc]
    exact ⟨t1, t2, hp.more (hg c hc)⟩, h.tin⟩
theorem BkAt.moreP (h : BkAt tag w bb p pm wm P g H q qm W gw) {g' : Nat} (hg : g ≤ g') : BkAt tag w bb p pm wm P g' H q qm W gw := ⟨h.c0, h.c1, h.f0, h.tb, h.tp, h.tpm, h.tm, h.pool.more hg, h.wait, h.tin⟩
end
theorem Bkr.keptP {F G : Nat → Prop} {w w' : World} {bb g : Nat} {P : St} {W : Int → St} (h : Bkr F w bb P W g) (hK : KeptP G w w') (hF : ∀ k, G k → ¬ F k) : Bkr F w' bb P W g := by
  obtain ⟨tag, p, pm, wm, H, q, qm, hf, hb, ho, h0, hc⟩ := h
  have hG : ∀ k, G k → tag k = .no := fun k g => Classical.byContradiction fun e => hF k g ((hf k).2 e)
  exact ⟨tag, p, pm, wm, H, q, qm, hf, hb.keptP hK hG, ho.of_block (hb.wm_kept hK (fun g => by have := hG _ g; rw [hb.tm] at this; cases this)), h0, hc⟩
theorem Bkr.lt {F : Nat → Prop} {w : World} {bb g : Nat} {P : St} {W : Int → St} (h : Bkr F w bb P W g) (k : Nat) (hk : F k) : k < w.heap.size := by
  obtain ⟨tag, p, pm, wm, H, q, qm, hf, hb, _⟩ := h
  exact hb.tin k ((hf k).1 hk)
theorem Bkr.base {F : Nat → Prop} {w : World} {bb g : Nat} {P : St} {W : Int → St} (h : Bkr F w bb P W g) : F bb := by
  obtain ⟨tag, p, pm, wm, H, q, qm, hf, hb, _⟩ := h
  exact (hf bb).2 (by rw [hb.tb]; intro e; cases e)
theorem Bkr.more {F : Nat → Prop} {w : World} {bb g g' : Nat} {P : St} {W : Int → St} (h : Bkr F w bb P W g) (hg : g ≤ g') : Bkr F w bb P W g' := by
  obtain ⟨tag, p, pm, wm, H, q, qm, hf, hb, ho, r⟩ := h
  exact ⟨tag, p, pm, wm, H, q, qm, hf, (hb.moreP hg).congr (fun _ _ => rfl) (fun _ _ => hg), ho.more hg, r⟩
theorem Bkr.drewN {F : Nat → Prop} {w : World} {bb g : Nat} {P : St} {W : Int → St} (h : Bkr F w bb P W g) (n : Nat) : Bkr F (w.drewN n) bb P W g := h.keptP (G := fun _ => False) ((KeptP.refl _ _).drewN n) (fun _ g => g.elim)
theorem Bkr.below {F : Nat → Prop} {w w' : World} {bb g : Nat} {P : St} {W : Int → St} (h : Bkr F w bb P W g) (hB : Below w.heap.size w w') : Bkr F w' bb P W g := h.keptP (G := fun _ => False) (KeptP.of_below hB) (fun _ g => g.elim)
end Go.Proofs.YtlhffdmhbplpjabDoor
