/-
  A baker of the program's as it lies in memory: its pool, and a map of pools of what waits.
  The program's stakes as they lie in memory: three bakers, each with what is its own.
  The program's pool copied (pool.Clone).
  An error's value, by its number: none, or one.
  A baker of the program's by its contracts: what waits of a cycle, and taking out.
  Sums over what waits, baker by baker, cycle by cycle, in any order.
-/
import Derived.Test.YtaihcceobnfmhaaGreatDoorPtrMapX
import Derived.Test.YtaihcceobnfmhaaGreatDoorProgActs
import Derived.Test.YtaihcceobnfmhaaGreatDoorProgPurseX
import Derived.Shelf.SlMaps.Clone
import Derived.Deep.RegionHeld3
namespace Go.Proofs.YtaihcceobnfmhaaGreatDoor
open Go.RowKit Go.Maps

/-- a pool of whose shares none are there is empty -/
theorem St.Ok.empty {x : St} (h : x.Ok) (hA : x.A = 0) : x = e0 := by
  have hs : ∀ o, x.s o = 0 := fun o => by have := h.le_all o; have := h.pos o; omega
  obtain ⟨T, s⟩ := x
  have hT : T = 0 := h.none hA
  subst hT
  exact congrArg (St.mk 0) (funext hs)
theorem PoolAt.keptP {w w' : World} {b m g : Nat} {x : St} {F : Nat → Prop} (h : PoolAt w b m x g) (hK : KeptP F w w') (hb : ¬ F b) (hm : ¬ F m) : PoolAt w' b m x g where
  c0 := hK.old h.c0 hb
  c1 := hK.old h.c1 hb
  c2 := hK.old h.c2 hb
  f0 := by rw [hK.frozen (cell_lt h.c0) hb]; exact h.f0
  f1 := by rw [hK.frozen (cell_lt h.c1) hb]; exact h.f1
  own := by
    obtain ⟨n, D, ⟨es, clock, hes, F, hs, hD⟩, hn, hat⟩ := h.own
    have hlt : m < w.heap.size := (Array.getElem?_eq_some_iff.1 hes).1
    exact ⟨n, D, ⟨es, clock, (hK.block m hlt hm).trans hes, F, hs, hD⟩, hn, hat⟩
  ne := h.ne

/-- whose a block is: another's, the baker's own, its pool's, its map's, a pool's of what waits of a cycle -/
inductive Tg where
  | no
  | base
  | pool
  | wmap
  | wait (c : Int)
/-- a baker, as it lies in memory; which cycles have pools; how often their maps were written -/
structure BkAt (tag : Nat → Tg) (w : World) (bb p pm wm : Nat) (P : St) (g : Nat) (H : Int → Bool) (q qm : Int → Nat) (W : Int → St) (gw : Int → Nat) : Prop where
  c0 : w.cell? ⟨bb, 0, none⟩ = some (.pointer (some ⟨p, 0, none⟩))
  c1 : w.cell? ⟨bb, 1, none⟩ = some (.map (some wm))
  f0 : w.frozen? ⟨bb, 0, none⟩ = false
  tb : tag bb = .base
  tp : tag p = .pool
  tpm : tag pm = .pool
  tm : tag wm = .wmap
  pool : PoolAt w p pm P g
  wait : ∀ c, H c = true → tag (q c) = .wait c ∧ tag (qm c) = .wait c ∧ PoolAt w (q c) (qm c) (W c) (gw c)
  tin : ∀ k, tag k ≠ .no → k < w.heap.size
/-- a baker, and what blocks are its own -/
def Bkr (F : Nat → Prop) (w : World) (bb : Nat) (P : St) (W : Int → St) (g : Nat) : Prop :=
  ∃ tag p pm wm H q qm, (∀ k, F k ↔ tag k ≠ Tg.no) ∧ BkAt tag w bb p pm wm P g H q qm W (fun _ => g) ∧ OwnQ w wm H q g ∧ (∀ c, H c = false → W c = e0) ∧ ∀ c, H c = true → Cy c

section
variable {tag : Nat → Tg} {w w' : World} {bb p pm wm g : Nat} {P : St} {H : Int → Bool} {q qm : Int → Nat} {W : Int → St} {gw : Int → Nat}
theorem BkAt.keptP {F : Nat → Prop} (h : BkAt tag w bb p pm wm P g H q qm W gw) (hK : KeptP F w w') (hF : ∀ k, F k → tag k = .no) : BkAt tag w' bb p pm wm P g H q qm W gw := by
  have no : ∀ k, tag k ≠ .no → ¬ F k := fun k hk g => hk (hF k g)
  have nb := no bb (by rw [h.tb]; intro e; cases e)
  refine ⟨hK.old h.c0 nb, hK.old h.c1 nb, ?_, h.tb, h.tp, h.tpm, h.tm, h.pool.keptP hK (no p (by rw [h.tp]; intro e; cases e)) (no pm (by rw [h.tpm]; intro e; cases e)), fun c hc => ?_, fun k hk => Nat.lt_of_lt_of_le (h.tin k hk) hK.size⟩
  · rw [hK.frozen (p := ⟨bb, 0, none⟩) (cell_lt h.c0) nb]; exact h.f0
  · obtain ⟨t1, t2, hp⟩ := h.wait c hc
    exact ⟨t1, t2, hp.keptP hK (no _ (by rw [t1]; intro e; cases e)) (no _ (by rw [t2]; intro e; cases e))⟩
/-- only blocks that bear such a tag have turned -/
theorem BkAt.keptT {t : Tg} (_h : BkAt tag w bb p pm wm P g H q qm W gw) {X : List Nat} (hK : Kept X w w') (hX : ∀ k, k ∈ X → tag k = t) : KeptP (fun k => tag k = t) w w' := KeptP.of_kept hK hX
theorem BkAt.wm_kept {F : Nat → Prop} (h : BkAt tag w bb p pm wm P g H q qm W gw) (hK : KeptP F w w') (hF : ¬ F wm) : w'.heap[wm]? = w.heap[wm]? := hK.block wm (h.tin wm (by rw [h.tm]; intro e; cases e)) hF
/-- its pool turned -/
theorem BkAt.poolTurned (h : BkAt tag w bb p pm wm P g H q qm W gw) {P' : St} {g' : Nat} (hK : Kept [p, pm] w w') (hP : PoolAt w' p pm P' g') : BkAt tag w' bb p pm wm P' g' H q qm W gw ∧ KeptP (fun k => tag k = .pool) w w' := by
  have hT : KeptP (fun k => tag k = .pool) w w' := KeptP.of_kept hK fun k hk => by
    rcases List.mem_cons.1 hk with e | e
    · rw [e]; exact h.tp
    · rw [List.mem_singleton.1 e]; exact h.tpm
  have nb : ¬ tag bb = .pool := by rw [h.tb]; intro e; cases e
  refine ⟨⟨hT.old h.c0 nb, hT.old h.c1 nb, ?_, h.tb, h.tp, h.tpm, h.tm, hP, fun c hc => ?_, fun k hk => Nat.lt_of_lt_of_le (h.tin k hk) hT.size⟩, hT⟩
  · rw [hT.frozen (p := ⟨bb, 0, none⟩) (cell_lt h.c0) nb]; exact h.f0
  · obtain ⟨t1, t2, hp⟩ := h.wait c hc
    exact ⟨t1, t2, hp.keptP hT (by rw [t1]; intro e; cases e) (by rw [t2]; intro e; cases e)⟩
/-- what waits of a cycle turned -/
theorem BkAt.waitTurned (h : BkAt tag w bb p pm wm P g H q qm W gw) {c : Int} (hc : H c = true) {X : St} {g' : Nat} (hK : Kept [q c, qm c] w w') (hP : PoolAt w' (q c) (qm c) X g') :
    BkAt tag w' bb p pm wm P g H q qm (set1 W c X) (set1 gw c g') ∧ KeptP (fun k => tag k = .wait c) w w' := by
  obtain ⟨t1, t2, _⟩ := h.wait c hc
  have hT : KeptP (fun k => tag k = .wait c) w w' := KeptP.of_kept hK fun k hk => by
    rcases List.mem_cons.1 hk with e | e
    · rw [e]; exact t1
    · rw [List.mem_singleton.1 e]; exact t2
  have nb : ¬ tag bb = .wait c := by rw [h.tb]; intro e; cases e
  refine ⟨⟨hT.old h.c0 nb, hT.old h.c1 nb, ?_, h.tb, h.tp, h.tpm, h.tm, h.pool.keptP hT (by rw [h.tp]; intro e; cases e) (by rw [h.tpm]; intro e; cases e), fun d hd => ?_, fun k hk => Nat.lt_of_lt_of_le (h.tin k hk) hT.size⟩, hT⟩
  · rw [hT.frozen (p := ⟨bb, 0, none⟩) (cell_lt h.c0) nb]; exact h.f0
  · by_cases e : d = c
    · subst e
      rw [set1_same, set1_same]
      exact ⟨t1, t2, hP⟩
    · obtain ⟨u1, u2, hp⟩ := h.wait d hd
      rw [set1_other _ _ _ _ e, set1_other _ _ _ _ e]
      exact ⟨u1, u2, hp.keptP hT (by rw [u1]; intro e2; cases e2; exact e rfl) (by rw [u2]; intro e2; cases e2; exact e rfl)⟩
/-- fewer cycles have pools -/
theorem BkAt.fewer (h : BkAt tag w bb p pm wm P g H q qm W gw) {H' : Int → Bool} (hH : ∀ c, H' c = true → H c = true) : BkAt tag w bb p pm wm P g H' q qm W gw := ⟨h.c0, h.c1, h.f0, h.tb, h.tp, h.tpm, h.tm, h.pool, fun c hc => h.wait c (hH c hc), h.tin⟩
/-- the map itself turned -/
theorem BkAt.mapTurned (h : BkAt tag w bb p pm wm P g H q qm W gw) (hK : Kept [wm] w w') : BkAt tag w' bb p pm wm P g H q qm W gw ∧ KeptP (fun k => tag k = .wmap) w w' := by
  have hT : KeptP (fun k => tag k = .wmap) w w' := KeptP.of_kept hK fun k hk => by rw [List.mem_singleton.1 hk]; exact h.tm
  have nb : ¬ tag bb = .wmap := by rw [h.tb]; intro e; cases e
  refine ⟨⟨hT.old h.c0 nb, hT.old h.c1 nb, ?_, h.tb, h.tp, h.tpm, h.tm, h.pool.keptP hT (by rw [h.tp]; intro e; cases e) (by rw [h.tpm]; intro e; cases e), fun c hc => ?_, fun k hk => Nat.lt_of_lt_of_le (h.tin k hk) hT.size⟩, hT⟩
  · rw [hT.frozen (p := ⟨bb, 0, none⟩) (cell_lt h.c0) nb]; exact h.f0
  · obtain ⟨t1, t2, hp⟩ := h.wait c hc
    exact ⟨t1, t2, hp.keptP hT (by rw [t1]; intro e; cases e) (by rw [t2]; intro e; cases e)⟩
/-- as what waits reads -/
theorem BkAt.congr (h : BkAt tag w bb p pm wm P g H q qm W gw) {W' : Int → St} {gw' : Int → Nat} (hW : ∀ c, H c = true → W' c = W c) (hg : ∀ c, H c = true → gw c ≤ gw' c) : BkAt tag w bb p pm wm P g H q qm W' gw' :=
  ⟨h.c0, h.c1, h.f0, h.tb, h.tp, h.tpm, h.tm, h.pool, fun c hc => by
    obtain ⟨t1, t2, hp⟩ := h.wait c hc
    rw [hW c hc]
    exact ⟨t1, t2, hp.more (hg c hc)⟩, h.tin⟩
theorem BkAt.moreP (h : BkAt tag w bb p pm wm P g H q qm W gw) {g' : Nat} (hg : g ≤ g') : BkAt tag w bb p pm wm P g' H q qm W gw := ⟨h.c0, h.c1, h.f0, h.tb, h.tp, h.tpm, h.tm, h.pool.more hg, h.wait, h.tin⟩
end
theorem Bkr.keptP {F G : Nat → Prop} {w w' : World} {bb g : Nat} {P : St} {W : Int → St} (h : Bkr F w bb P W g) (hK : KeptP G w w') (hF : ∀ k, G k → ¬ F k) : Bkr F w' bb P W g := by
  obtain ⟨tag, p, pm, wm, H, q, qm, hf, hb, ho, h0, hc⟩ := h
  have hG : ∀ k, G k → tag k = .no := fun k g => Classical.byContradiction fun e => hF k g ((hf k).2 e)
  exact ⟨tag, p, pm, wm, H, q, qm, hf, hb.keptP hK hG, ho.of_block (hb.wm_kept hK (fun g => by have := hG _ g; rw [hb.tm] at this; cases this)), h0, hc⟩
theorem Bkr.lt {F : Nat → Prop} {w : World} {bb g : Nat} {P : St} {W : Int → St} (h : Bkr F w bb P W g) (k : Nat) (hk : F k) : k < w.heap.size := by
  obtain ⟨tag, p, pm, wm, H, q, qm, hf, hb, _⟩ := h
  exact hb.tin k ((hf k).1 hk)
theorem Bkr.base {F : Nat → Prop} {w : World} {bb g : Nat} {P : St} {W : Int → St} (h : Bkr F w bb P W g) : F bb := by
  obtain ⟨tag, p, pm, wm, H, q, qm, hf, hb, _⟩ := h
  exact (hf bb).2 (by rw [hb.tb]; intro e; cases e)
theorem Bkr.more {F : Nat → Prop} {w : World} {bb g g' : Nat} {P : St} {W : Int → St} (h : Bkr F w bb P W g) (hg : g ≤ g') : Bkr F w bb P W g' := by
  obtain ⟨tag, p, pm, wm, H, q, qm, hf, hb, ho, r⟩ := h
  exact ⟨tag, p, pm, wm, H, q, qm, hf, (hb.moreP hg).congr (fun _ _ => rfl) (fun _ _ => hg), ho.more hg, r⟩
theorem Bkr.drewN {F : Nat → Prop} {w : World} {bb g : Nat} {P : St} {W : Int → St} (h : Bkr F w bb P W g) (n : Nat) : Bkr F (w.drewN n) bb P W g := h.keptP (G := fun _ => False) ((KeptP.refl _ _).drewN n) (fun _ g => g.elim)
theorem Bkr.below {F : Nat → Prop} {w w' : World} {bb g : Nat} {P : St} {W : Int → St} (h : Bkr F w bb P W g) (hB : Below w.heap.size w w') : Bkr F w' bb P W g := h.keptP (G := fun _ => False) (KeptP.of_below hB) (fun _ g => g.elim)
end Go.Proofs.YtaihcceobnfmhaaGreatDoor

namespace Go.Proofs.YtaihcceobnfmhaaGreatDoor
open Go.RowKit

/-- what the stakes' errors hold -/
structure StkLaid (w : World) (A : Nat → Addr) : Prop where
  v1 : w.cell? ⟨0, 0, none⟩ = some (sent (A 1))
  v3 : w.cell? ⟨4, 0, none⟩ = some (sent (A 3))
  v4 : w.cell? ⟨5, 0, none⟩ = some (sent (A 4))
  v5 : w.cell? ⟨6, 0, none⟩ = some (sent (A 5))
  v6 : w.cell? ⟨7, 0, none⟩ = some (sent (A 6))
  v7 : w.cell? ⟨8, 0, none⟩ = some (sent (A 7))
theorem stk_old {w w' : World} (hB : Below w.heap.size w w') {a : Addr} {v : Value} (h : w.cell? a = some v) : w'.cell? a = some v := by rw [hB.cell (cell_lt h)]; exact h
theorem StkLaid.below {w w' : World} {A : Nat → Addr} (h : StkLaid w A) (hB : Below w.heap.size w w') : StkLaid w' A :=
  ⟨stk_old hB h.v1, stk_old hB h.v3, stk_old hB h.v4, stk_old hB h.v5, stk_old hB h.v6, stk_old hB h.v7⟩
theorem StkLaid.drewN {w : World} {A : Nat → Addr} (h : StkLaid w A) (n : Nat) : StkLaid (w.drewN n) A := h.below (below_drewN (Below.refl _ _) n)
theorem StkLaid.pool {w : World} {A : Nat → Addr} (h : StkLaid w A) : PoolLaid w A true := ⟨h.v1, h.v3, fun _ => h.v5, h.v6, h.v7⟩

/-- the program's stakes: what is each baker's, and where it lies -/
structure PSkAt (G : Int → Nat → Prop) (bb : Int → Nat) (w : World) (sb : Nat) (S : Sk) (gb : Int → Nat) : Prop where
  c : ∀ b : Nat, b < 3 → w.cell? ⟨sb, b, none⟩ = some (.pointer (if S.R b then some ⟨bb b, 0, none⟩ else none))
  f : ∀ b : Nat, b < 3 → w.frozen? ⟨sb, b, none⟩ = false
  bk : ∀ b, S.R b = true → Bkr (G b) w (bb b) (S.P b) (S.W b) (gb b)
  out : ∀ b, S.R b = false → ∀ k, ¬ G b k
  apart : ∀ b b' k, G b k → G b' k → b = b'
  nsb : ∀ b k, G b k → k ≠ sb
/-- the program's stakes: what blocks are theirs; g: how often their maps were written at most -/
def PSk (F : Nat → Prop) (w : World) (sb : Nat) (S : Sk) (g : Nat) : Prop := ∃ G bb, (∀ k, F k ↔ k = sb ∨ ∃ b, G b k) ∧ PSkAt G bb w sb S fun _ => g

section
variable {G : Int → Nat → Prop} {bb : Int → Nat} {w w' : World} {sb : Nat} {S : Sk} {gb : Int → Nat}
theorem PSkAt.lt (h : PSkAt G bb w sb S gb) {b : Int} {k : Nat} (hk : G b k) : k < w.heap.size := by
  cases hr : S.R b with
  | true => exact (h.bk b hr).lt k hk
  | false => exact absurd hk (h.out b hr k)
theorem PSkAt.keptP {F : Nat → Prop} (h : PSkAt G bb w sb S gb) (hK : KeptP F w w') (hF : ∀ b k, F k → ¬ G b k) (hs : ¬ F sb) : PSkAt G bb w' sb S gb :=
  ⟨fun b hb => hK.old (h.c b hb) hs, fun b hb => by rw [hK.frozen (p := ⟨sb, b, none⟩) (cell_lt (h.c b hb)) hs]; exact h.f b hb, fun b hr => (h.bk b hr).keptP hK (hF b), h.out, h.apart, h.nsb⟩
theorem PSkAt.below (h : PSkAt G bb w sb S gb) (hB : Below w.heap.size w w') : PSkAt G bb w' sb S gb := h.keptP (F := fun _ => False) (KeptP.of_below hB) (fun _ _ g => g.elim) (fun g => g)
theorem PSkAt.drewN (h : PSkAt G bb w sb S gb) (n : Nat) : PSkAt G bb (w.drewN n) sb S gb := h.below (below_drewN (Below.refl _ _) n)
theorem PSkAt.base (h : PSkAt G bb w sb S gb) : sb < w.heap.size := cell_lt (h.c 0 (by omega))
/-- one baker turned -/
theorem PSkAt.turn (h : PSkAt G bb w sb S gb) {b : Int} (hr : S.R b = true) {G' : Nat → Prop} {P' : St} {W' : Int → St} {g' : Nat} (hB : Bkr G' w' (bb b) P' W' g') (hM : Moved (G b) G' w w')
    {S' : Sk} (hR : ∀ i, S'.R i = S.R i) (hP : S'.P b = P') (hW : S'.W b = W') (hPo : ∀ i, i ≠ b → S'.P i = S.P i) (hWo : ∀ i, i ≠ b → S'.W i = S.W i) : PSkAt (set1 G b G') bb w' sb S' (set1 gb b g') := by
  have ns : ¬ G b sb := fun g => h.nsb b sb g rfl
  have old : ∀ i k, set1 G b G' i k → G i k ∨ (i = b ∧ w.heap.size ≤ k) := fun i k g => by
    by_cases e : i = b
    · subst e
      rw [set1_same] at g
      rcases Nat.lt_or_ge k w.heap.size with l | l
      · exact .inl (hM.old k l g)
      · exact .inr ⟨rfl, l⟩
    · rw [set1_other _ _ _ _ e] at g
      exact .inl g
  refine ⟨fun i hi => ?_, fun i hi => ?_, fun i hi => ?_, fun i hi k g => ?_, fun i j k gi gj => ?_, fun i k g => ?_⟩
  · rw [hR]; exact hM.kept.old (h.c i hi) ns
  · rw [hM.kept.frozen (p := ⟨sb, i, none⟩) (cell_lt (h.c i hi)) ns]; exact h.f i hi
  · by_cases e : i = b
    · subst e
      rw [set1_same, set1_same, hP, hW]
      exact hB
    · rw [set1_other _ _ _ _ e, set1_other _ _ _ _ e, hPo i e, hWo i e]
      exact (h.bk i (by rw [← hR]; exact hi)).keptP hM.kept (fun k g g2 => e (h.apart i b k g2 g))
  · rw [hR] at hi
    rcases old i k g with l | ⟨e, _⟩
    · exact h.out i hi k l
    · rw [e, hr] at hi; cases hi
  · rcases old i k gi with l | ⟨e, l⟩ <;> rcases old j k gj with l2 | ⟨e2, l2⟩
    · exact h.apart i j k l l2
    · have := h.lt l; omega
    · have := h.lt l2; omega
    · rw [e, e2]
  · rcases old i k g with l | ⟨e, l⟩
    · exact h.nsb i k l
    · have := h.base; omega
end
/-- blocks of all bakers, and the stakes' own -/
def owns (G : Int → Nat → Prop) (sb : Nat) : Nat → Prop := fun k => k = sb ∨ ∃ b, G b k
theorem moved_turn {G : Int → Nat → Prop} {F : Nat → Prop} {sb : Nat} {w w' : World} (hf : ∀ k, F k ↔ k = sb ∨ ∃ b, G b k) {b : Int} {G' : Nat → Prop} (hM : Moved (G b) G' w w') : Moved F (owns (set1 G b G') sb) w w' := by
  refine ⟨hM.kept.mono fun k _ g => (hf k).2 (.inr ⟨b, g⟩), fun k hk g => (hf k).2 ?_⟩
  rcases g with e | ⟨i, g⟩
  · exact .inl e
  · refine .inr ⟨i, ?_⟩
    by_cases e : i = b
    · subst e
      rw [set1_same] at g
      exact hM.old k hk g
    · rw [set1_other _ _ _ _ e] at g
      exact g
theorem PSk.keptP {F G : Nat → Prop} {w w' : World} {sb g : Nat} {S : Sk} (h : PSk F w sb S g) (hK : KeptP G w w') (hF : ∀ k, G k → ¬ F k) : PSk F w' sb S g := by
  obtain ⟨Gs, bb, hf, h⟩ := h
  exact ⟨Gs, bb, hf, h.keptP hK (fun b k g g2 => hF k g ((hf k).2 (.inr ⟨b, g2⟩))) (fun g => hF sb g ((hf sb).2 (.inl rfl)))⟩
theorem PSk.lt {F : Nat → Prop} {w : World} {sb g : Nat} {S : Sk} (h : PSk F w sb S g) (k : Nat) (hk : F k) : k < w.heap.size := by
  obtain ⟨Gs, bb, hf, h⟩ := h
  rcases (hf k).1 hk with e | ⟨b, g⟩
  · rw [e]; exact h.base
  · exact h.lt g
theorem PSkAt.sk {G : Int → Nat → Prop} {bb : Int → Nat} {w : World} {sb g : Nat} {S : Sk} {gb : Int → Nat} (h : PSkAt G bb w sb S gb) (hg : ∀ b, gb b ≤ g) : PSk (owns G sb) w sb S g :=
  ⟨G, bb, fun _ => Iff.rfl, h.c, h.f, fun b hr => (h.bk b hr).more (hg b), h.out, h.apart, h.nsb⟩
theorem PSk.more {F : Nat → Prop} {w : World} {sb g g' : Nat} {S : Sk} (h : PSk F w sb S g) (hg : g ≤ g') : PSk F w sb S g' := by
  obtain ⟨G, bb, hf, h⟩ := h
  exact ⟨G, bb, hf, h.c, h.f, fun b hr => (h.bk b hr).more hg, h.out, h.apart, h.nsb⟩
end Go.Proofs.YtaihcceobnfmhaaGreatDoor

namespace Go.Proofs.YtaihcceobnfmhaaGreatDoor
open Go.RowKit Go.Maps

set_option maxRecDepth 100000 in
set_option maxHeartbeats 2000000 in
theorem map_clone (b : Nat) (es : Array MapEntry) (clock : Nat) (w : World) (hb : w.heap[b]? = some (.map es clock)) :
    Calls Tryz.prog 203 #[.map (some b)] w fun e w' => e = .returned (.map (some w.heap.size)) ∧ w' = w.alloc (.map es clock) := by
  have hq := fun w => run_eql_map_nil_sl (P := Tryz.prog) w 157 _ _ (some b) Tryz.underlying157
  go_enter Tryz.func203, Tryz.ntmps203
  go_wp2
  rw [run_callFunc_extern Tryz.func209 (by kernel_rfl) (by kernel_rfl) (by kernel_rfl) (e := Extern.MapsClone.clone) (by kernel_rfl), run_maps_clone_sl w 157 hb]
  simp only [Result.andThen]
  rw [Oper.upon_value]
  go_wp2
  rw [run_typeAssert_map_sl _ 157 _ _ _ _ Tryz.underlying157]
  simp only [Result.andThen]
  rw [Oper.upon_value]
  go_wp2
  go_ret
  exact ⟨rfl, rfl⟩
theorem own_clone (m g : Nat) (s : Int → Int) (w : World) (h : OwnS w m s g) :
    Calls Tryz.prog 203 #[.map (some m)] w fun e w' => ∃ m', e = .returned (.map (some m')) ∧ w.heap.size ≤ m' ∧ OwnS w' m' s g ∧ Below w.heap.size w w' := by
  obtain ⟨n, D, ⟨es, clock, hes, F, hs, hD⟩, hn, hat⟩ := h
  refine (map_clone m es clock w hes).mono ?_
  rintro e w' ⟨rfl, rfl⟩
  exact ⟨_, rfl, Nat.le_refl _, ⟨n, D, ⟨es, clock, (MapKept.heap_alloc w _).1, F, hs, hD⟩, hn, hat⟩, (Below.refl _ _).alloc (Nat.le_refl _) _⟩
theorem pool_made {w : World} {m g : Nat} {x : St} (h : OwnS w m x.s g) (t : TypeId) : PoolAt (w.alloc (.cells #[.int .i64 x.T, .int .i64 x.A, .map (some m)] t)) w.heap.size m x g where
  c0 := cell_new _ _ _ _ _ _ rfl rfl
  c1 := cell_new _ _ _ _ _ _ rfl rfl
  c2 := cell_new _ _ _ _ _ _ rfl rfl
  f0 := World.frozen?_alloc_at _ _ _ _ rfl
  f1 := World.frozen?_alloc_at _ _ _ _ rfl
  own := by
    obtain ⟨n, D, ho, hn, hat⟩ := h
    exact ⟨n, D, ho.alloc _, hn, hat⟩
  ne := by
    obtain ⟨n, D, ho, _⟩ := h
    have := ho.lt
    omega
theorem below_of_drew {w w' : World} (h : Below w.drew.heap.size w.drew w') : Below w.heap.size w w' := ⟨h.os, h.tape, h.output, h.size, h.block⟩
set_option maxRecDepth 100000 in
set_option maxHeartbeats 2000000 in
theorem prog_clone (b m g : Nat) (x : St) (w : World) (h : PoolAt w b m x g) :
    Calls Tryz.prog 195 #[.pointer (some ⟨b, 0, none⟩)] w fun e w' => ∃ b' m', e = .returned (.pointer (some ⟨b', 0, none⟩)) ∧ w.heap.size ≤ b' ∧ w.heap.size ≤ m' ∧ PoolAt w' b' m' x g ∧ Below w.heap.size w w' := by
  have c0 := h.c0
  have c1 := h.c1
  have c2 := h.c2
  go_enter Tryz.func195, Tryz.ntmps195
  go_wp2
  go_region_held3 (fun w' => w'.cell? ⟨b, 0, none⟩ = some (.int .i64 x.T) ∧ w'.cell? ⟨b, 1, none⟩ = some (.int .i64 x.A) ∧ w'.cell? ⟨b, 2, none⟩ = some (.map (some m))) (first | exact ⟨by assumption, by assumption, by assumption⟩ | exact ⟨old_cell ((Below.refl _ _).alloc (Nat.le_refl _) _) d0, old_cell ((Below.refl _ _).alloc (Nat.le_refl _) _) d1, old_cell ((Below.refl _ _).alloc (Nat.le_refl _) _) d2⟩)
    ((go_at_call 203; refine (own_clone m g x.s _ (by exact h.own)).mono ?_; rintro e w2 ⟨m2, rfl, hm2, hO2, hB2⟩; have d0 : w2.cell? ⟨b, 0, none⟩ = some (.int .i64 x.T) := old_cell hB2 c0; have d1 : w2.cell? ⟨b, 1, none⟩ = some (.int .i64 x.A) := old_cell hB2 c1; have d2 : w2.cell? ⟨b, 2, none⟩ = some (.map (some m)) := old_cell hB2 c2))
  go_wp2
  go_ret
  exact ⟨_, m2, rfl, hB2.size, hm2, pool_made hO2 _, (below_of_drew hB2).alloc hB2.size _⟩
end Go.Proofs.YtaihcceobnfmhaaGreatDoor

namespace Go.Proofs.YtaihcceobnfmhaaGreatDoor

theorem ErrIs.nil {A : Nat → Addr} {e : Value} {c : Int} (h : ErrIs A e c) (hc : c = 0) : e = .nilIface := by
  rcases h with ⟨_, rfl⟩ | ⟨i, _, rfl, _⟩
  · rfl
  · omega
theorem ErrIs.err {A : Nat → Addr} {e : Value} {c : Int} (h : ErrIs A e c) (hc : c ≠ 0) : ∃ i, e = sent (A i) := by
  rcases h with ⟨g, _⟩ | ⟨i, _, _, rfl⟩
  · exact absurd g hc
  · exact ⟨i, rfl⟩
end Go.Proofs.YtaihcceobnfmhaaGreatDoor

namespace Go.Proofs.YtaihcceobnfmhaaGreatDoor
open Go.RowKit Go.Maps

theorem zeroPool (w : World) : (zeroValue 90).run Tryz.prog w = .ok (.pointer none) w := by kernel_rfl
section
variable {tag : Nat → Tg} {w : World} {bb p pm wm g : Nat} {P : St} {H : Int → Bool} {q qm : Int → Nat} {W : Int → St} {gw : Int → Nat}
theorem bk_waitingOf (h : BkAt tag w bb p pm wm P g H q qm W gw) (g' g1 : Nat) (ho : OwnQ w wm H q g') (h0 : ∀ c, H c = false → W c = e0) (hg : ∀ c, gw c ≤ g1) (c : Int) (hc : (Lit.int .i64 c).wf = true) :
    Calls Tryz.prog 140 #[.pointer (some ⟨bb, 0, none⟩), .int .i64 c] w fun e w' => ∃ x xm, e = .returned (.pointer (some ⟨x, 0, none⟩)) ∧ PoolAt w' x xm (W c) g1 ∧ ((x = q c ∧ xm = qm c ∧ H c = true) ∨ (w.heap.size ≤ x ∧ w.heap.size ≤ xm ∧ H c = false)) ∧ Below w.heap.size w w' := by
  have c1 := h.c1
  have L := ho.look Tryz.underlying91 (zeroPool w) c hc
  cases hH : H c with
  | true =>
    rw [hH] at L
    simp only [if_true] at L
    have hw := hide (h.wait c hH).2.2
    have HG := hide (hg c)
    clear hH ho h hg h0
    go_enter Tryz.func140, Tryz.ntmps140
    go_wp2
    go_ret
    exact ⟨_, qm c, rfl, hw.out.more HG.out, .inl ⟨rfl, rfl, trivial⟩, Below.refl _ _⟩
  | false =>
    rw [hH] at L
    simp only [Bool.false_eq_true, if_false] at L
    have C := prog_new w
    have H0 := hide (h0 c hH)
    clear hH ho h hg h0
    go_enter Tryz.func140, Tryz.ntmps140
    go_wp2_with (go_at_call 145; refine C.mono ?_; rintro e w' ⟨b, m, rfl, hb, hm, hP, hB⟩)
    go_ret
    exact ⟨b, m, rfl, by rw [H0.out]; exact hP.more (Nat.zero_le _), .inr ⟨hb, hm, trivial⟩, hB⟩
end

/-- a baker with a new pool, and a pool more (or one turned) of what waits -/
theorem BkAt.remade {tag : Nat → Tg} {w w' : World} {bb p pm wm g : Nat} {P : St} {H : Int → Bool} {q qm : Int → Nat} {W : Int → St} {gw : Int → Nat} (h : BkAt tag w bb p pm wm P g H q qm W gw)
    {p' pm' x xm : Nat} {c : Int} {P' X : St} {g' : Nat} (hg : ∀ d, gw d ≤ g') (hp : w.heap.size ≤ p') (hpm : w.heap.size ≤ pm') (hx : (x = q c ∧ xm = qm c ∧ H c = true) ∨ (w.heap.size ≤ x ∧ w.heap.size ≤ xm ∧ x ≠ p' ∧ x ≠ pm' ∧ xm ≠ p' ∧ xm ≠ pm'))
    (hK : KeptP (fun k => tag k = .base ∨ tag k = .wmap ∨ k = x ∨ k = xm) w w') (c0 : w'.cell? ⟨bb, 0, none⟩ = some (.pointer (some ⟨p', 0, none⟩))) (c1 : w'.cell? ⟨bb, 1, none⟩ = some (.map (some wm))) (f0 : w'.frozen? ⟨bb, 0, none⟩ = false)
    (hP : PoolAt w' p' pm' P' g') (hX : PoolAt w' x xm X g') :
    ∃ tag', BkAt tag' w' bb p' pm' wm P' g' (set1 H c true) (set1 q c x) (set1 qm c xm) (set1 W c X) (fun _ => g') ∧ ∀ k, k < w.heap.size → tag' k ≠ .no → tag k ≠ .no := by
  have lt := h.tin
  have new : ∀ k, w.heap.size ≤ k → tag k = .no := fun k hk => Classical.byContradiction fun e => by have := lt k e; omega
  have ltb : bb < w.heap.size := lt bb (by rw [h.tb]; intro e; cases e)
  have ltm : wm < w.heap.size := lt wm (by rw [h.tm]; intro e; cases e)
  have ltq : ∀ d, H d = true → q d < w.heap.size ∧ qm d < w.heap.size := fun d hd => ⟨lt _ (by rw [(h.wait d hd).1]; intro e; cases e), lt _ (by rw [(h.wait d hd).2.1]; intro e; cases e)⟩
  have nx : x ≠ p' ∧ x ≠ pm' ∧ xm ≠ p' ∧ xm ≠ pm' := by
    rcases hx with ⟨e1, e2, hH⟩ | ⟨_, _, r⟩
    · have := ltq c hH
      rw [e1, e2]; omega
    · exact r
  -- the tags
  refine ⟨fun k => if k = p' ∨ k = pm' then .pool else if k = x ∨ k = xm then .wait c else tag k, ?_, ?_⟩
  · have old : ∀ k, k < w.heap.size → k ≠ x → k ≠ xm → (if k = p' ∨ k = pm' then Tg.pool else if k = x ∨ k = xm then .wait c else tag k) = tag k := fun k hk h1 h2 => by rw [if_neg (by omega), if_neg (by omega)]
    have nbx : bb ≠ x ∧ bb ≠ xm := by
      rcases hx with ⟨e1, e2, hH⟩ | ⟨g1, g2, _⟩
      · obtain ⟨t1, t2, _⟩ := h.wait c hH
        constructor <;> intro e
        · rw [← e1, ← e, h.tb] at t1; cases t1
        · rw [← e2, ← e, h.tb] at t2; cases t2
      · omega
    have nmx : wm ≠ x ∧ wm ≠ xm := by
      rcases hx with ⟨e1, e2, hH⟩ | ⟨g1, g2, _⟩
      · obtain ⟨t1, t2, _⟩ := h.wait c hH
        constructor <;> intro e
        · rw [← e1, ← e, h.tm] at t1; cases t1
        · rw [← e2, ← e, h.tm] at t2; cases t2
      · omega
    refine ⟨c0, c1, f0, ?_, ?_, ?_, ?_, hP, fun d hd => ?_, fun k hk => ?_⟩
    · show (if bb = p' ∨ bb = pm' then Tg.pool else if bb = x ∨ bb = xm then .wait c else tag bb) = .base
      rw [old bb ltb nbx.1 nbx.2]; exact h.tb
    · exact if_pos (.inl rfl)
    · exact if_pos (.inr rfl)
    · show (if wm = p' ∨ wm = pm' then Tg.pool else if wm = x ∨ wm = xm then .wait c else tag wm) = .wmap
      rw [old wm ltm nmx.1 nmx.2]; exact h.tm
    · by_cases e : d = c
      · subst e
        rw [set1_same, set1_same, set1_same]
        refine ⟨?_, ?_, hX⟩
        · show (if x = p' ∨ x = pm' then Tg.pool else if x = x ∨ x = xm then .wait d else tag x) = .wait d
          rw [if_neg (by omega), if_pos (.inl rfl)]
        · show (if xm = p' ∨ xm = pm' then Tg.pool else if xm = x ∨ xm = xm then .wait d else tag xm) = .wait d
          rw [if_neg (by omega), if_pos (.inr rfl)]
      · rw [set1_other _ _ _ _ e] at hd
        rw [set1_other _ _ _ _ e, set1_other _ _ _ _ e, set1_other _ _ _ _ e]
        obtain ⟨u1, u2, hu⟩ := h.wait d hd
        obtain ⟨l1, l2⟩ := ltq d hd
        have nq : q d ≠ x ∧ q d ≠ xm ∧ qm d ≠ x ∧ qm d ≠ xm := by
          rcases hx with ⟨e1, e2, hH⟩ | ⟨g1, g2, _⟩
          · obtain ⟨t1, t2, _⟩ := h.wait c hH
            refine ⟨fun i => ?_, fun i => ?_, fun i => ?_, fun i => ?_⟩
            · rw [i, e1, t1] at u1; cases u1; exact e rfl
            · rw [i, e2, t2] at u1; cases u1; exact e rfl
            · rw [i, e1, t1] at u2; cases u2; exact e rfl
            · rw [i, e2, t2] at u2; cases u2; exact e rfl
          · omega
        refine ⟨(old _ l1 nq.1 nq.2.1).trans u1, (old _ l2 nq.2.2.1 nq.2.2.2).trans u2, (hu.keptP hK ?_ ?_).more (hg d)⟩
        · rintro (g1 | g1 | g1 | g1)
          · rw [u1] at g1; cases g1
          · rw [u1] at g1; cases g1
          · exact nq.1 g1
          · exact nq.2.1 g1
        · rintro (g1 | g1 | g1 | g1)
          · rw [u2] at g1; cases g1
          · rw [u2] at g1; cases g1
          · exact nq.2.2.1 g1
          · exact nq.2.2.2 g1
    · have hp' := hP.lt
      have hx' := hX.lt
      by_cases e1 : k = p' ∨ k = pm'
      · rcases e1 with e | e
        · rw [e]; exact hp'.1
        · rw [e]; exact hp'.2
      · by_cases e2 : k = x ∨ k = xm
        · rcases e2 with e | e
          · rw [e]; exact hx'.1
          · rw [e]; exact hx'.2
        · have hk' : (if k = p' ∨ k = pm' then Tg.pool else if k = x ∨ k = xm then .wait c else tag k) ≠ .no := hk
          rw [if_neg e1, if_neg e2] at hk'
          exact Nat.lt_of_lt_of_le (lt k hk') hK.size
  · intro k hk ht
    have ht' : (if k = p' ∨ k = pm' then Tg.pool else if k = x ∨ k = xm then .wait c else tag k) ≠ .no := ht
    rw [if_neg (by omega)] at ht'
    by_cases e2 : k = x ∨ k = xm
    · rcases hx with ⟨e1, e3, hH⟩ | ⟨g1, g2, _⟩
      · obtain ⟨t1, t2, _⟩ := h.wait c hH
        rcases e2 with e | e
        · rw [e, e1, t1]; intro i; cases i
        · rw [e, e3, t2]; intro i; cases i
      · omega
    · rw [if_neg e2] at ht'
      exact ht'

/-- where a pool of what waits lies, and the new pool -/
theorem taken_apart {tag : Nat → Tg} {w w2 : World} {bb p pm wm g : Nat} {P : St} {H : Int → Bool} {q qm : Int → Nat} {W : Int → St} {gw : Int → Nat} (h : BkAt tag w bb p pm wm P g H q qm W gw)
    {p' pm' x xm : Nat} {c : Int} (_hs : w.heap.size ≤ w2.heap.size) (hp : w.heap.size ≤ p') (hpm : w.heap.size ≤ pm') (hlt : p' < w2.heap.size ∧ pm' < w2.heap.size)
    (hx : (x = q c ∧ xm = qm c ∧ H c = true) ∨ (w2.heap.size ≤ x ∧ w2.heap.size ≤ xm ∧ H c = false)) :
    ((x = q c ∧ xm = qm c ∧ H c = true) ∨ (w.heap.size ≤ x ∧ w.heap.size ≤ xm ∧ x ≠ p' ∧ x ≠ pm' ∧ xm ≠ p' ∧ xm ≠ pm')) ∧ x ≠ p' ∧ x ≠ pm' ∧ xm ≠ p' ∧ xm ≠ pm' ∧ bb ≠ x ∧ bb ≠ xm ∧ wm ≠ x ∧ wm ≠ xm := by
  have ltb : bb < w.heap.size := h.tin bb (by rw [h.tb]; intro e; cases e)
  have ltm : wm < w.heap.size := h.tin wm (by rw [h.tm]; intro e; cases e)
  rcases hx with ⟨e1, e2, hH⟩ | ⟨g1, g2, _⟩
  · obtain ⟨t1, t2, _⟩ := h.wait c hH
    have l1 : q c < w.heap.size := h.tin _ (by rw [t1]; intro e; cases e)
    have l2 : qm c < w.heap.size := h.tin _ (by rw [t2]; intro e; cases e)
    rw [e1, e2]
    refine ⟨.inl ⟨rfl, rfl, hH⟩, by omega, by omega, by omega, by omega, fun e => ?_, fun e => ?_, fun e => ?_, fun e => ?_⟩
    · rw [← e, h.tb] at t1; cases t1
    · rw [← e, h.tb] at t2; cases t2
    · rw [← e, h.tm] at t1; cases t1
    · rw [← e, h.tm] at t2; cases t2
  · refine ⟨.inr ⟨by omega, by omega, by omega, by omega, by omega, by omega⟩, by omega, by omega, by omega, by omega, by omega, by omega, by omega, by omega⟩
theorem stk_old' {w w' : World} (hB : Below w.heap.size w w') {a : Addr} {v : Value} (h : w.cell? a = some v) : w'.cell? a = some v := by rw [hB.cell (cell_lt h)]; exact h
/-- the world behind taking out -/
theorem unstake_end {F : Nat → Prop} {tag : Nat → Tg} {w w3 w4 w6 : World} {bb p pm wm g : Nat} {P : St} {H : Int → Bool} {q qm : Int → Nat} {W : Int → St} {p' pm' x xm : Nat} {c : Int} {P' X : St} (hf : ∀ k, F k ↔ tag k ≠ Tg.no) (hb : BkAt tag w bb p pm wm P g H q qm W (fun _ => g))
    (h0 : ∀ c, H c = false → W c = e0) (hcy : ∀ c, H c = true → Cy c) (hc : Cy c) (hp' : w.heap.size ≤ p') (hpm' : w.heap.size ≤ pm') (hx : (x = q c ∧ xm = qm c ∧ H c = true) ∨ (w.heap.size ≤ x ∧ w.heap.size ≤ xm ∧ x ≠ p' ∧ x ≠ pm' ∧ xm ≠ p' ∧ xm ≠ pm'))
    (nb1 : bb ≠ x) (nb2 : bb ≠ xm) (nm1 : wm ≠ x) (nm2 : wm ≠ xm) (hB3 : Below w.heap.size w w3) (hK4 : Kept [x, xm] w3 w4) (hP4 : PoolAt w4 p' pm' P' (g + 4)) (hX4 : PoolAt w4 x xm X (g + 4))
    (d0 : w4.cell? ⟨bb, 0, none⟩ = some (.pointer (some ⟨p, 0, none⟩))) (d1 : w4.cell? ⟨bb, 1, none⟩ = some (.map (some wm))) (e1 : w4.frozen? ⟨bb, 0, none⟩ = false)
    (hq6 : OwnQ w6 wm (set1 H c true) (set1 q c x) (g + 1)) (hK6 : Kept [wm] (w4.setCell ⟨bb, 0, none⟩ (.pointer (some ⟨p', 0, none⟩))) w6) : ∃ F', Bkr F' w6 bb P' (set1 W c X) (g + 4) ∧ Moved F F' w w6 := by
  have ltb : bb < w.heap.size := hb.tin bb (by rw [hb.tb]; intro e; cases e)
  have ltm : wm < w.heap.size := hb.tin wm (by rw [hb.tm]; intro e; cases e)
  have ne : bb ≠ wm := fun e => by have := hb.tm; rw [← e, hb.tb] at this; cases this
  have a2 : KeptP (fun k => tag k = .base ∨ tag k = .wmap ∨ k = x ∨ k = xm) w3 w4 := KeptP.of_kept hK4 fun k hk => by
    rcases List.mem_cons.1 hk with e | e
    · exact .inr (.inr (.inl e))
    · exact .inr (.inr (.inr (List.mem_singleton.1 e)))
  have a4 := ((KeptP.of_below hB3).trans a2 (fun _ _ g => g)).setCell (p := ⟨bb, 0, none⟩) (.inl hb.tb) (.pointer (some ⟨p', 0, none⟩))
  have a5 : KeptP (fun k => tag k = .base ∨ tag k = .wmap ∨ k = x ∨ k = xm) (w4.setCell ⟨bb, 0, none⟩ (.pointer (some ⟨p', 0, none⟩))) w6 := KeptP.of_kept hK6 fun k hk => .inr (.inl (by rw [List.mem_singleton.1 hk]; exact hb.tm))
  have a6 := a4.trans a5 (fun _ _ g => g)
  have k6 : KeptP (fun k => k = bb ∨ k = wm) w4 w6 := ((KeptP.refl _ _).setCell (p := ⟨bb, 0, none⟩) (.inl rfl) (.pointer (some ⟨p', 0, none⟩))).trans (KeptP.of_kept (F := fun k => k = bb ∨ k = wm) hK6 fun k hk => .inr (List.mem_singleton.1 hk)) (fun _ _ g => g)
  have lt4 : bb < (w4.setCell ⟨bb, 0, none⟩ (.pointer (some ⟨p', 0, none⟩))).heap.size := cell_lt (a := ⟨bb, 0, none⟩) (World.cell?_setCell_same _ _ _ d0)
  obtain ⟨tag', hb', hold⟩ := hb.remade (g' := g + 4) (fun _ => Nat.le_add_right _ _) hp' hpm' hx a6 (hK6.old (World.cell?_setCell_same _ _ _ d0) (by simp [ne])) (hK6.old (by rw [World.cell?_setCell_other _ _ _ _ (by simp)]; exact d1) (by simp [ne]))
    (by rw [hK6.frozen (p := ⟨bb, 0, none⟩) lt4 (by simp [ne]), World.frozen?_setCell]; exact e1) (hP4.keptP k6 (by omega) (by omega)) (hX4.keptP k6 (by omega) (by omega))
  refine ⟨fun k => tag' k ≠ .no, ⟨tag', p', pm', wm, _, _, _, fun _ => Iff.rfl, hb', hq6.more (by omega), fun d hd => ?_, fun d hd => ?_⟩, a6.mono (fun k hk g => (hf k).2 ?_), fun k hk g => (hf k).2 (hold k hk g)⟩
  · have e : d ≠ c := fun e => by rw [e, set1_same] at hd; cases hd
    rw [set1_other _ _ _ _ e] at hd
    rw [set1_other _ _ _ _ e]; exact h0 d hd
  · by_cases e : d = c
    · rw [e]; exact hc
    · rw [set1_other _ _ _ _ e] at hd; exact hcy d hd
  · rcases g with e | e | e | e
    · rw [e]; intro i; cases i
    · rw [e]; intro i; cases i
    · rcases hx with ⟨e1, _, hH⟩ | ⟨g1, _⟩
      · rw [e, e1, (hb.wait c hH).1]; intro i; cases i
      · omega
    · rcases hx with ⟨_, e1, hH⟩ | ⟨_, g1, _⟩
      · rw [e, e1, (hb.wait c hH).2.1]; intro i; cases i
      · omega
/-- nothing of its own has turned -/
theorem Bkr.same {F : Nat → Prop} {w w' : World} {bb g : Nat} {P : St} {W : Int → St} (h : Bkr F w bb P W g) (hB : Below w.heap.size w w') : ∃ F', Bkr F' w' bb P W (g + 4) ∧ Moved F F' w w' := ⟨F, (h.below hB).more (by omega), KeptP.of_below hB, fun _ _ g => g⟩
/-- a pool of what waits came back as it was -/
theorem Bkr.joinNo {F : Nat → Prop} {tag : Nat → Tg} {w w3 w4 : World} {bb p pm wm g : Nat} {P : St} {H : Int → Bool} {q qm : Int → Nat} {W : Int → St} {x xm : Nat} {c : Int} (hf : ∀ k, F k ↔ tag k ≠ Tg.no) (hb : BkAt tag w bb p pm wm P g H q qm W (fun _ => g)) (hq : OwnQ w wm H q g)
    (h0 : ∀ c, H c = false → W c = e0) (hcy : ∀ c, H c = true → Cy c) (hx : (x = q c ∧ xm = qm c ∧ H c = true) ∨ (w.heap.size ≤ x ∧ w.heap.size ≤ xm)) (hB3 : Below w.heap.size w w3) (hK4 : Kept [x, xm] w3 w4) (hX4 : PoolAt w4 x xm (W c) (g + 4)) : ∃ F', Bkr F' w4 bb P W (g + 4) ∧ Moved F F' w w4 := by
  rcases hx with ⟨rfl, rfl, hH⟩ | ⟨g1, g2⟩
  · have hb3 := hb.keptP (KeptP.of_below (F := fun _ => False) hB3) (fun _ g => g.elim)
    obtain ⟨hb4, hT⟩ := hb3.waitTurned hH hK4 hX4
    have hq4 : OwnQ w4 wm H q g := (hq.of_block (hB3.block wm hq.lt)).of_block (hT.block wm (Nat.lt_of_lt_of_le hq.lt hB3.size) (by rw [hb.tm]; intro e; cases e))
    refine ⟨F, ⟨tag, p, pm, wm, H, q, qm, hf, (hb4.moreP (by omega)).congr (fun d _ => ?_) (fun d _ => ?_), hq4.more (by omega), h0, hcy⟩, ((KeptP.of_below hB3).trans hT (fun k _ e => (hf k).2 (by rw [e]; intro i; cases i))), fun _ _ g => g⟩
    · by_cases e : d = c
      · subst e; rw [set1_same]
      · rw [set1_other _ _ _ _ e]
    · by_cases e : d = c
      · subst e; rw [set1_same]; exact Nat.le_refl _
      · rw [set1_other _ _ _ _ e]; omega
  · have hB4 : Below w.heap.size w w4 := hB3.trans (hK4.below hB3.size (by simp [g1, g2]))
    have h : Bkr F w bb P W g := ⟨tag, p, pm, wm, H, q, qm, hf, hb, hq, h0, hcy⟩
    exact h.same hB4
/-- what taking out makes: a code, the baker's pool, what waits -/
def ustC (P : St) (W : Int → St) (o n c : Int) : Int := if P.takeC o n ≠ 0 then P.takeC o n else (W c).joinC o n
def UstEnd (F : Nat → Prop) (bb g : Nat) (P : St) (W : Int → St) (o n c : Int) (A : Nat → Addr) (w : World) (e : Ending) (w' : World) : Prop := ∃ ev F', e = .returned ev ∧ ErrIs A ev (ustC P W o n c) ∧
  (if ustC P W o n c = 0 then Bkr F' w' bb (P.take o n) (set1 W c ((W c).join o n)) (g + 4) else Bkr F' w' bb P W (g + 4)) ∧ Moved F F' w w'
set_option maxRecDepth 100000 in
set_option maxHeartbeats 2000000 in
theorem bk_unstake (F : Nat → Prop) (bb g : Nat) (P : St) (W : Int → St) (hP : P.Ok) (hW : ∀ c, (W c).Ok) (hg : g ≤ 900000) (o n c : Int) (ho : (Lit.int .i64 o).wf = true) (hc : Cy c) (A : Nat → Addr) (w : World) (hL : PoolLaid w A true) (h : Bkr F w bb P W g) :
    Calls Tryz.prog 164 #[.pointer (some ⟨bb, 0, none⟩), .int .i64 o, .int .i64 n, .int .i64 c] w (UstEnd F bb g P W o n c A w) := by
  have wc : (Lit.int .i64 c).wf = true := WalkArith.wf_i64 (by omega)
  obtain ⟨tag, p, pm, wm, H, q, qm, hf, hb, hq, h0, hcy⟩ := h
  have C1 := prog_clone p pm g P w hb.pool
  have c0 := hb.c0
  by_cases ht : P.takeC o n = 0
  · by_cases hj : (W c).joinC o n = 0
    · have hu : ustC P W o n c = 0 := by unfold ustC; rw [if_neg (fun e => e ht)]; exact hj
      have HU := hide hu
      have HT := hide ht
      have HJ := hide hj
      clear hu ht hj
      go_enter Tryz.func164, Tryz.ntmps164
      go_wp2_with fail
      refine C1.mono ?_
      rintro e w1 ⟨p', pm', rfl, hp', hpm', hP1, hB1⟩
      go_wp2_with fail
      refine (prog_take p' pm' g P hP o n ho (by omega) A w1 (hL.below hB1) hP1).mono ?_
      rintro e w2 ⟨ev, rfl, hE, hP2, hK2⟩
      obtain rfl := hE.nil HT.out
      have hB2 : Below w.heap.size w w2 := hB1.trans (hK2.below hB1.size (by simp [hp', hpm']))
      have hb2 := hb.keptP (KeptP.of_below (F := fun _ => False) hB2) (fun _ g => g.elim)
      have hq2 := hq.of_block (hB2.block wm hq.lt)
      go_wp2_with fail
      refine (bk_waitingOf hb2 g g hq2 h0 (fun _ => Nat.le_refl _) c wc).mono ?_
      rintro e w3 ⟨x, xm, rfl, hX3, hx, hB3⟩
      have hB3' : Below w.heap.size w w3 := hB2.trans (hB3.mono hB2.size)
      go_wp2_with fail
      refine (prog_join x xm g (W c) (hW c) o n ho (by omega) A true w3 (hL.below hB3') hX3).mono ?_
      rintro e w4 ⟨ev, rfl, hE4, hX4, hK4⟩
      obtain rfl := hE4.nil HJ.out
      obtain ⟨hx', n1, n2, n3, n4, nb1, nb2, nm1, nm2⟩ := taken_apart hb hB2.size hp' hpm' hP2.lt hx
      have hP3 := hP2.keptP (KeptP.of_below (F := fun _ => False) hB3) (fun g => g) (fun g => g)
      have hP4 := hP3.kept hK4 (by simp [n1.symm, n3.symm]) (by simp [n2.symm, n4.symm])
      have ltb := cell_lt c0
      have d0 : w4.cell? ⟨bb, 0, none⟩ = some (.pointer (some ⟨p, 0, none⟩)) := hK4.old (stk_old' hB3' hb.c0) (by simp [nb1, nb2])
      have d1 : w4.cell? ⟨bb, 1, none⟩ = some (.map (some wm)) := hK4.old (stk_old' hB3' hb.c1) (by simp [nb1, nb2])
      have e0 : w4.frozen? ⟨bb, 0, none⟩ = false := by
        rw [hK4.frozen (p := ⟨bb, 0, none⟩) (Nat.lt_of_lt_of_le ltb hB3'.size) (by simp [nb1, nb2]), hB3'.frozen (p := ⟨bb, 0, none⟩) ltb]; exact hb.f0
      have hq4 : OwnQ (w4.setCell ⟨bb, 0, none⟩ (.pointer (some ⟨p', 0, none⟩))) wm H q g := by
        have ne : wm ≠ bb := fun e => by have := hb.tm; rw [e, hb.tb] at this; cases this
        refine hq.of_block ?_
        rw [Below.heap_setCell _ _ _ _ ne, hK4.block wm (Nat.lt_of_lt_of_le hq.lt hB3'.size) (by simp [nm1, nm2])]
        exact hB3'.block wm hq.lt
      have HB := hide hb
      have HQ := hide h0
      have HC := hide hcy
      clear hb h0 hcy
      go_wp2_with (at_mapUpdate; refine wpList_update_Q rfl _ _ _ 91 90 rfl Tryz.underlying91 rfl hq4 (by omega) c rfl wc x rfl ?_; intro w6 hq6 hK6)
      go_ret
      obtain ⟨F', hBk, hM⟩ := unstake_end hf HB.out HQ.out HC.out hc hp' hpm' hx' nb1 nb2 nm1 nm2 hB3' hK4 hP4 hX4 d0 d1 e0 hq6 hK6
      exact ⟨_, F', rfl, ErrIs.no HU.out, by rw [if_pos HU.out]; exact hBk, hM⟩
    · have hu : ustC P W o n c = (W c).joinC o n := by unfold ustC; rw [if_neg (fun e => e ht)]
      have HU := hide hu
      have HT := hide ht
      have HJ := hide hj
      clear hu ht hj
      go_enter Tryz.func164, Tryz.ntmps164
      go_wp2_with fail
      refine C1.mono ?_
      rintro e w1 ⟨p', pm', rfl, hp', hpm', hP1, hB1⟩
      go_wp2_with fail
      refine (prog_take p' pm' g P hP o n ho (by omega) A w1 (hL.below hB1) hP1).mono ?_
      rintro e w2 ⟨ev, rfl, hE, hP2, hK2⟩
      obtain rfl := hE.nil HT.out
      have hB2 : Below w.heap.size w w2 := hB1.trans (hK2.below hB1.size (by simp [hp', hpm']))
      have hb2 := hb.keptP (KeptP.of_below (F := fun _ => False) hB2) (fun _ g => g.elim)
      have hq2 := hq.of_block (hB2.block wm hq.lt)
      go_wp2_with fail
      refine (bk_waitingOf hb2 g g hq2 h0 (fun _ => Nat.le_refl _) c wc).mono ?_
      rintro e w3 ⟨x, xm, rfl, hX3, hx, hB3⟩
      have hB3' : Below w.heap.size w w3 := hB2.trans (hB3.mono hB2.size)
      go_wp2_with fail
      refine (prog_join x xm g (W c) (hW c) o n ho (by omega) A true w3 (hL.below hB3') hX3).mono ?_
      rintro e w4 ⟨ev, rfl, hE4, hX4, hK4⟩
      rw [← HU.out] at hE4
      obtain ⟨i, rfl⟩ := hE4.err (by rw [HU.out]; exact HJ.out)
      rw [St.join_no rfl HJ.out] at hX4
      have hx2 : (x = q c ∧ xm = qm c ∧ H c = true) ∨ (w.heap.size ≤ x ∧ w.heap.size ≤ xm) := hx.imp (fun g => g) (fun g => ⟨Nat.le_trans hB2.size g.1, Nat.le_trans hB2.size g.2.1⟩)
      obtain ⟨F', hBk, hM⟩ := Bkr.joinNo hf hb hq h0 hcy hx2 hB3' hK4 hX4
      clear hx hx2 hb2 hq2 hb hq h0 hcy hX4 hX3 hK4 hK2 hP2 hP1 c0
      go_wp2
      go_ret
      exact ⟨_, F', rfl, hE4, by rw [if_neg (by rw [HU.out]; exact HJ.out)]; exact hBk, hM⟩
  · have hu : ustC P W o n c = P.takeC o n := by unfold ustC; rw [if_pos ht]
    have HU := hide hu
    have HT := hide ht
    have HB : Hid (Bkr F w bb P W g) := ⟨tag, p, pm, wm, H, q, qm, hf, hb, hq, h0, hcy⟩
    clear hu ht hb hq h0 hcy
    go_enter Tryz.func164, Tryz.ntmps164
    go_wp2_with fail
    refine C1.mono ?_
    rintro e w1 ⟨p', pm', rfl, hp', hpm', hP1, hB1⟩
    go_wp2_with fail
    refine (prog_take p' pm' g P hP o n ho (by omega) A w1 (hL.below hB1) hP1).mono ?_
    rintro e w2 ⟨ev, rfl, hE, hP2, hK2⟩
    rw [← HU.out] at hE
    obtain ⟨i, rfl⟩ := hE.err (by rw [HU.out]; exact HT.out)
    have hB2 : Below w.heap.size w w2 := hB1.trans (hK2.below hB1.size (by simp [hp', hpm']))
    clear hP2 hP1 hK2
    go_wp2
    go_ret
    obtain ⟨F', hBk, hM⟩ := HB.out.same hB2
    exact ⟨_, F', rfl, hE, by rw [if_neg (by rw [HU.out]; exact HT.out)]; exact hBk, hM⟩
end Go.Proofs.YtaihcceobnfmhaaGreatDoor

namespace Go.Proofs.YtaihcceobnfmhaaGreatDoor

/-- the summands of one baker whose cycles are no longer to come -/
def sumB (K : List (Int × Int)) (b : Int) (left : Int → Bool) (f : Int → Int → Int) : Int := sumK K fun b' c' => if b' = b ∧ left c' = false then f b' c' else 0
theorem sumB_step {K : List (Int × Int)} (hn : K.Nodup) {b c : Int} {left : Int → Bool} {f : Int → Int → Int} (hl : left c = true) (h0 : (b, c) ∉ K → f b c = 0) : sumB K b (but left c) f = sumB K b left f + f b c := by
  have oth : ∀ k, k ≠ (b, c) → (if k.1 = b ∧ but left c k.2 = false then f k.1 k.2 else 0) = (if k.1 = b ∧ left k.2 = false then f k.1 k.2 else 0) := by
    intro k hk
    by_cases e : k.1 = b
    · have ec : k.2 ≠ c := fun e2 => hk (by rw [← e, ← e2])
      rw [but_other _ _ _ ec]
    · rw [if_neg (fun g => e g.1), if_neg (fun g => e g.1)]
  have hd : (if b = b ∧ left c = false then f b c else 0) = 0 := if_neg (fun g => by rw [hl] at g; cases g.2)
  have hd2 : (if b = b ∧ but left c c = false then f b c else 0) = f b c := if_pos ⟨rfl, but_same _ _⟩
  by_cases hm : (b, c) ∈ K
  · have e := sumK_one (f := fun b' c' => if b' = b ∧ left c' = false then f b' c' else 0) (g := fun b' c' => if b' = b ∧ but left c c' = false then f b' c' else 0) b c K hn hm (fun k _ ne => oth k ne)
    unfold sumB
    rw [e]
    show sumK K _ - (if b = b ∧ left c = false then f b c else 0) + (if b = b ∧ but left c c = false then f b c else 0) = _
    rw [hd, hd2]
    omega
  · rw [h0 hm]
    unfold sumB
    rw [sumK_congr (g := fun b' c' => if b' = b ∧ left c' = false then f b' c' else 0) K (fun k hk => oth k (fun e => hm (e ▸ hk)))]
    omega
theorem sumB_start {K : List (Int × Int)} {b : Int} {left : Int → Bool} {f : Int → Int → Int} (h : ∀ c, left c = false → f b c = 0) : sumB K b left f = 0 :=
  sumK_zero K fun k _ => by
    by_cases g : k.1 = b ∧ left k.2 = false
    · rw [if_pos g, g.1]; exact h _ g.2
    · exact if_neg g
theorem sumB_end {K : List (Int × Int)} {b : Int} {left : Int → Bool} {f : Int → Int → Int} (h : ∀ c, left c = false) : sumB K b left f = sumK K fun b' c' => if b' = b then f b' c' else 0 :=
  sumK_congr K fun k _ => by
    by_cases g : k.1 = b
    · rw [if_pos ⟨g, h _⟩, if_pos g]
    · rw [if_neg (fun e => g e.1), if_neg g]
theorem sumB_bd {K : List (Int × Int)} {b : Int} {left : Int → Bool} {f : Int → Int → Int} {M : Int} (hM : 0 ≤ M) (h : ∀ b c, 0 ≤ f b c ∧ f b c ≤ M) : 0 ≤ sumB K b left f ∧ sumB K b left f ≤ K.length * M := by
  refine ⟨sumK_nonneg K fun k _ => ?_, sumK_le K fun k _ => ?_⟩
  · by_cases g : k.1 = b ∧ left k.2 = false
    · rw [if_pos g]; exact (h _ _).1
    · rw [if_neg g]; exact Int.le_refl _
  · by_cases g : k.1 = b ∧ left k.2 = false
    · rw [if_pos g]; exact (h _ _).2
    · rw [if_neg g]; exact hM
/-- the summands of bakers that are done -/
def sumD (K : List (Int × Int)) (d : Int → Bool) (f : Int → Int → Int) : Int := sumK K fun b' c' => if d b' = true then f b' c' else 0
theorem sumD_step {K : List (Int × Int)} {d : Int → Bool} {b : Int} {f : Int → Int → Int} (hd : d b = false) : sumD K (set1 d b true) f = sumD K d f + sumK K fun b' c' => if b' = b then f b' c' else 0 := by
  unfold sumD
  rw [← sumK_add]
  refine sumK_congr K fun k _ => ?_
  show (if set1 d b true k.1 = true then f k.1 k.2 else 0) = (if d k.1 = true then f k.1 k.2 else 0) + (if k.1 = b then f k.1 k.2 else 0)
  by_cases e : k.1 = b
  · rw [e, set1_same, if_pos rfl, hd, if_neg (by simp), if_pos rfl]; omega
  · rw [set1_other _ _ _ _ e, if_neg e]; omega
theorem sumD_start {K : List (Int × Int)} {d : Int → Bool} {f : Int → Int → Int} (h : ∀ b, d b = false) : sumD K d f = 0 := sumK_zero K fun k _ => by rw [h]; rfl
theorem sumD_end {K : List (Int × Int)} {d : Int → Bool} {f : Int → Int → Int} (h : ∀ k, k ∈ K → d k.1 = true) : sumD K d f = sumK K f := sumK_congr K fun k hk => by rw [h k hk]; rfl
theorem sumD_bd {K : List (Int × Int)} {d : Int → Bool} {f : Int → Int → Int} {M : Int} (hM : 0 ≤ M) (h : ∀ b c, 0 ≤ f b c ∧ f b c ≤ M) : 0 ≤ sumD K d f ∧ sumD K d f ≤ K.length * M := by
  refine ⟨sumK_nonneg K fun k _ => ?_, sumK_le K fun k _ => ?_⟩
  · by_cases g : d k.1 = true
    · rw [if_pos g]; exact (h _ _).1
    · rw [if_neg g]; exact Int.le_refl _
  · by_cases g : d k.1 = true
    · rw [if_pos g]; exact (h _ _).2
    · rw [if_neg g]; exact hM
end Go.Proofs.YtaihcceobnfmhaaGreatDoor
