/-
  A baker of the program's as it lies in memory: its pool, and a map of pools of what waits.
  The program's stakes as they lie in memory: three bakers, each with what is its own.
-/
import Derived.Test.YtaihcceobnfmhaaDoorPtrMapX
import Derived.Test.YtaihcceobnfmhaaDoorProgActs
import Derived.Test.YtaihcceobnfmhaaDoorSentVX
import Derived.Test.YtaihcceobnfmhaaDoorProgPurseX
namespace Go.Proofs.YtaihcceobnfmhaaDoor
open Go.RowKit Go.Maps

/-- a pool of whose shares none are there is empty -/
theorem St.Ok.empty {x : St} (h : x.Ok) (hA : x.A = 0) : x = e0 := by
  have hs : ∀ o, x.s o = 0 := fun o => by have := h.le_all o; have := h.pos o; omega
  obtain ⟨T, s⟩ := x
  have hT : T = 0 := h.none hA
  subst hT
  exact congrArg (St.mk 0) (funext hs)
theorem PoolAt.keptP {w w' : World} {b m g : Nat} {x : St} {F : Nat → Prop} (h : PoolAt w b m x g) (hK : KeptP F w w') (hb : ¬ F b) (hm : ¬ F m) : PoolAt w' b m x g where
  c0 := hK.old h.c0 hb
  c1 := hK.old h.c1 hb
  c2 := hK.old h.c2 hb
  f0 := by rw [hK.frozen (cell_lt h.c0) hb]; exact h.f0
  f1 := by rw [hK.frozen (cell_lt h.c1) hb]; exact h.f1
  own := by
    obtain ⟨n, D, ⟨es, clock, hes, F, hs, hD⟩, hn, hat⟩ := h.own
    have hlt : m < w.heap.size := (Array.getElem?_eq_some_iff.1 hes).1
    exact ⟨n, D, ⟨es, clock, (hK.block m hlt hm).trans hes, F, hs, hD⟩, hn, hat⟩
  ne := h.ne

/-- whose a block is: another's, the baker's own, its pool's, its map's, a pool's of what waits of a cycle -/
inductive Tg where
  | no
  | base
  | pool
  | wmap
  | wait (c : Int)
/-- a baker, as it lies in memory; which cycles have pools; how often their maps were written -/
structure BkAt (tag : Nat → Tg) (w : World) (bb p pm wm : Nat) (P : St) (g : Nat) (H : Int → Bool) (q qm : Int → Nat) (W : Int → St) (gw : Int → Nat) : Prop where
  c0 : w.cell? ⟨bb, 0, none⟩ = some (.pointer (some ⟨p, 0, none⟩))
  c1 : w.cell? ⟨bb, 1, none⟩ = some (.map (some wm))
  f0 : w.frozen? ⟨bb, 0, none⟩ = false
  tb : tag bb = .base
  tp : tag p = .pool
  tpm : tag pm = .pool
  tm : tag wm = .wmap
  pool : PoolAt w p pm P g
  wait : ∀ c, H c = true → tag (q c) = .wait c ∧ tag (qm c) = .wait c ∧ PoolAt w (q c) (qm c) (W c) (gw c)
  tin : ∀ k, tag k ≠ .no → k < w.heap.size
/-- a baker, and what blocks are its own -/
def Bkr (F : Nat → Prop) (w : World) (bb : Nat) (P : St) (W : Int → St) (g : Nat) : Prop :=
  ∃ tag p pm wm H q qm, (∀ k, F k ↔ tag k ≠ Tg.no) ∧ BkAt tag w bb p pm wm P g H q qm W (fun _ => g) ∧ OwnQ w wm H q g ∧ (∀ c, H c = false → W c = e0) ∧ ∀ c, H c = true → Cy c

section
variable {tag : Nat → Tg} {w w' : World} {bb p pm wm g : Nat} {P : St} {H : Int → Bool} {q qm : Int → Nat} {W : Int → St} {gw : Int → Nat}
theorem BkAt.keptP {F : Nat → Prop} (h : BkAt tag w bb p pm wm P g H q qm W gw) (hK : KeptP F w w') (hF : ∀ k, F k → tag k = .no) : BkAt tag w' bb p pm wm P g H q qm W gw := by
  have no : ∀ k, tag k ≠ .no → ¬ F k := fun k hk g => hk (hF k g)
  have nb := no bb (by rw [h.tb]; intro e; cases e)
  refine ⟨hK.old h.c0 nb, hK.old h.c1 nb, ?_, h.tb, h.tp, h.tpm, h.tm, h.pool.keptP hK (no p (by rw [h.tp]; intro e; cases e)) (no pm (by rw [h.tpm]; intro e; cases e)), fun c hc => ?_, fun k hk => Nat.lt_of_lt_of_le (h.tin k hk) hK.size⟩
  · rw [hK.frozen (p := ⟨bb, 0, none⟩) (cell_lt h.c0) nb]; exact h.f0
  · obtain ⟨t1, t2, hp⟩ := h.wait c hc
    exact ⟨t1, t2, hp.keptP hK (no _ (by rw [t1]; intro e; cases e)) (no _ (by rw [t2]; intro e; cases e))⟩
/-- only blocks that bear such a tag have turned -/
theorem BkAt.keptT {t : Tg} (_h : BkAt tag w bb p pm wm P g H q qm W gw) {X : List Nat} (hK : Kept X w w') (hX : ∀ k, k ∈ X → tag k = t) : KeptP (fun k => tag k = t) w w' := KeptP.of_kept hK hX
theorem BkAt.wm_kept {F : Nat → Prop} (h : BkAt tag w bb p pm wm P g H q qm W gw) (hK : KeptP F w w') (hF : ¬ F wm) : w'.heap[wm]? = w.heap[wm]? := hK.block wm (h.tin wm (by rw [h.tm]; intro e; cases e)) hF
/-- its pool turned -/
theorem BkAt.poolTurned (h : BkAt tag w bb p pm wm P g H q qm W gw) {P' : St} {g' : Nat} (hK : Kept [p, pm] w w') (hP : PoolAt w' p pm P' g') : BkAt tag w' bb p pm wm P' g' H q qm W gw ∧ KeptP (fun k => tag k = .pool) w w' := by
  have hT : KeptP (fun k => tag k = .pool) w w' := KeptP.of_kept hK fun k hk => by
    rcases List.mem_cons.1 hk with e | e
    · rw [e]; exact h.tp
    · rw [List.mem_singleton.1 e]; exact h.tpm
  have nb : ¬ tag bb = .pool := by rw [h.tb]; intro e; cases e
  refine ⟨⟨hT.old h.c0 nb, hT.old h.c1 nb, ?_, h.tb, h.tp, h.tpm, h.tm, hP, fun c hc => ?_, fun k hk => Nat.lt_of_lt_of_le (h.tin k hk) hT.size⟩, hT⟩
  · rw [hT.frozen (p := ⟨bb, 0, none⟩) (cell_lt h.c0) nb]; exact h.f0
  · obtain ⟨t1, t2, hp⟩ := h.wait c hc
    exact ⟨t1, t2, hp.keptP hT (by rw [t1]; intro e; cases e) (by rw [t2]; intro e; cases e)⟩
/-- what waits of a cycle turned -/
theorem BkAt.waitTurned (h : BkAt tag w bb p pm wm P g H q qm W gw) {c : Int} (hc : H c = true) {X : St} {g' : Nat} (hK : Kept [q c, qm c] w w') (hP : PoolAt w' (q c) (qm c) X g') :
    BkAt tag w' bb p pm wm P g H q qm (set1 W c X) (set1 gw c g') ∧ KeptP (fun k => tag k = .wait c) w w' := by
  obtain ⟨t1, t2, _⟩ := h.wait c hc
  have hT : KeptP (fun k => tag k = .wait c) w w' := KeptP.of_kept hK fun k hk => by
    rcases List.mem_cons.1 hk with e | e
    · rw [e]; exact t1
    · rw [List.mem_singleton.1 e]; exact t2
  have nb : ¬ tag bb = .wait c := by rw [h.tb]; intro e; cases e
  refine ⟨⟨hT.old h.c0 nb, hT.old h.c1 nb, ?_, h.tb, h.tp, h.tpm, h.tm, h.pool.keptP hT (by rw [h.tp]; intro e; cases e) (by rw [h.tpm]; intro e; cases e), fun d hd => ?_, fun k hk => Nat.lt_of_lt_of_le (h.tin k hk) hT.size⟩, hT⟩
  · rw [hT.frozen (p := ⟨bb, 0, none⟩) (cell_lt h.c0) nb]; exact h.f0
  · by_cases e : d = c
    · subst e
      rw [set1_same, set1_same]
      exact ⟨t1, t2, hP⟩
    · obtain ⟨u1, u2, hp⟩ := h.wait d hd
      rw [set1_other _ _ _ _ e, set1_other _ _ _ _ e]
      exact ⟨u1, u2, hp.keptP hT (by rw [u1]; intro e2; cases e2; exact e rfl) (by rw [u2]; intro e2; cases e2; exact e rfl)⟩
/-- fewer cycles have pools -/
theorem BkAt.fewer (h : BkAt tag w bb p pm wm P g H q qm W gw) {H' : Int → Bool} (hH : ∀ c, H' c = true → H c = true) : BkAt tag w bb p pm wm P g H' q qm W gw := ⟨h.c0, h.c1, h.f0, h.tb, h.tp, h.tpm, h.tm, h.pool, fun c hc => h.wait c (hH c hc), h.tin⟩
/-- the map itself turned -/
theorem BkAt.mapTurned (h : BkAt tag w bb p pm wm P g H q qm W gw) (hK : Kept [wm] w w') : BkAt tag w' bb p pm wm P g H q qm W gw ∧ KeptP (fun k => tag k = .wmap) w w' := by
  have hT : KeptP (fun k => tag k = .wmap) w w' := KeptP.of_kept hK fun k hk => by rw [List.mem_singleton.1 hk]; exact h.tm
  have nb : ¬ tag bb = .wmap := by rw [h.tb]; intro e; cases e
  refine ⟨⟨hT.old h.c0 nb, hT.old h.c1 nb, ?_, h.tb, h.tp, h.tpm, h.tm, h.pool.keptP hT (by rw [h.tp]; intro e; cases e) (by rw [h.tpm]; intro e; cases e), fun c hc => ?_, fun k hk => Nat.lt_of_lt_of_le (h.tin k hk) hT.size⟩, hT⟩
  · rw [hT.frozen (p := ⟨bb, 0, none⟩) (cell_lt h.c0) nb]; exact h.f0
  · obtain ⟨t1, t2, hp⟩ := h.wait c hc
    exact ⟨t1, t2, hp.keptP hT (by rw [t1]; intro e; cases e) (by rw [t2]; intro e; cases e)⟩
/-- as what waits reads -/
theorem BkAt.congr (h : BkAt tag w bb p pm wm P g H q qm W gw) {W' : Int → St} {gw' : Int → Nat} (hW : ∀ c, H c = true → W' c = W c) (hg : ∀ c, H c = true → gw c ≤ gw' c) : BkAt tag w bb p pm wm P g H q qm W' gw' :=
  ⟨h.c0, h.c1, h.f0, h.tb, h.tp, h.tpm, h.tm, h.pool, fun c hc => by
    obtain ⟨t1, t2, hp⟩ := h.wait c hc
    rw [hW c hc]
    exact ⟨t1, t2, hp.more (hg c hc)⟩, h.tin⟩
theorem BkAt.moreP (h : BkAt tag w bb p pm wm P g H q qm W gw) {g' : Nat} (hg : g ≤ g') : BkAt tag w bb p pm wm P g' H q qm W gw := ⟨h.c0, h.c1, h.f0, h.tb, h.tp, h.tpm, h.tm, h.pool.more hg, h.wait, h.tin⟩
end
theorem Bkr.keptP {F G : Nat → Prop} {w w' : World} {bb g : Nat} {P : St} {W : Int → St} (h : Bkr F w bb P W g) (hK : KeptP G w w') (hF : ∀ k, G k → ¬ F k) : Bkr F w' bb P W g := by
  obtain ⟨tag, p, pm, wm, H, q, qm, hf, hb, ho, h0, hc⟩ := h
  have hG : ∀ k, G k → tag k = .no := fun k g => Classical.byContradiction fun e => hF k g ((hf k).2 e)
  exact ⟨tag, p, pm, wm, H, q, qm, hf, hb.keptP hK hG, ho.of_block (hb.wm_kept hK (fun g => by have := hG _ g; rw [hb.tm] at this; cases this)), h0, hc⟩
theorem Bkr.lt {F : Nat → Prop} {w : World} {bb g : Nat} {P : St} {W : Int → St} (h : Bkr F w bb P W g) (k : Nat) (hk : F k) : k < w.heap.size := by
  obtain ⟨tag, p, pm, wm, H, q, qm, hf, hb, _⟩ := h
  exact hb.tin k ((hf k).1 hk)
theorem Bkr.base {F : Nat → Prop} {w : World} {bb g : Nat} {P : St} {W : Int → St} (h : Bkr F w bb P W g) : F bb := by
  obtain ⟨tag, p, pm, wm, H, q, qm, hf, hb, _⟩ := h
  exact (hf bb).2 (by rw [hb.tb]; intro e; cases e)
theorem Bkr.more {F : Nat → Prop} {w : World} {bb g g' : Nat} {P : St} {W : Int → St} (h : Bkr F w bb P W g) (hg : g ≤ g') : Bkr F w bb P W g' := by
  obtain ⟨tag, p, pm, wm, H, q, qm, hf, hb, ho, r⟩ := h
  exact ⟨tag, p, pm, wm, H, q, qm, hf, (hb.moreP hg).congr (fun _ _ => rfl) (fun _ _ => hg), ho.more hg, r⟩
theorem Bkr.drewN {F : Nat → Prop} {w : World} {bb g : Nat} {P : St} {W : Int → St} (h : Bkr F w bb P W g) (n : Nat) : Bkr F (w.drewN n) bb P W g := h.keptP (G := fun _ => False) ((KeptP.refl _ _).drewN n) (fun _ g => g.elim)
theorem Bkr.below {F : Nat → Prop} {w w' : World} {bb g : Nat} {P : St} {W : Int → St} (h : Bkr F w bb P W g) (hB : Below w.heap.size w w') : Bkr F w' bb P W g := h.keptP (G := fun _ => False) (KeptP.of_below hB) (fun _ g => g.elim)
end Go.Proofs.YtaihcceobnfmhaaDoor

namespace Go.Proofs.YtaihcceobnfmhaaDoor
open Go.RowKit

/-- what the stakes' errors hold -/
structure StkLaid (w : World) (A : Nat → Addr) : Prop where
  v1 : w.cell? ⟨0, 0, none⟩ = some (sent (A 1))
  v3 : w.cell? ⟨4, 0, none⟩ = some (sent (A 3))
  v4 : w.cell? ⟨2, 0, none⟩ = some (sent (A 4))
  v5 : w.cell? ⟨3, 0, none⟩ = some (sent (A 5))
  v6 : w.cell? ⟨6, 0, none⟩ = some (sent (A 6))
  v7 : w.cell? ⟨5, 0, none⟩ = some (sent (A 7))
theorem stk_old {w w' : World} (hB : Below w.heap.size w w') {a : Addr} {v : Value} (h : w.cell? a = some v) : w'.cell? a = some v := by rw [hB.cell (cell_lt h)]; exact h
theorem StkLaid.below {w w' : World} {A : Nat → Addr} (h : StkLaid w A) (hB : Below w.heap.size w w') : StkLaid w' A :=
  ⟨stk_old hB h.v1, stk_old hB h.v3, stk_old hB h.v4, stk_old hB h.v5, stk_old hB h.v6, stk_old hB h.v7⟩
theorem StkLaid.drewN {w : World} {A : Nat → Addr} (h : StkLaid w A) (n : Nat) : StkLaid (w.drewN n) A := h.below (below_drewN (Below.refl _ _) n)
theorem StkLaid.pool {w : World} {A : Nat → Addr} (h : StkLaid w A) : PoolLaid w A true := ⟨h.v1, h.v3, fun _ => h.v5, h.v6, h.v7⟩

/-- the program's stakes: what is each baker's, and where it lies -/
structure PSkAt (G : Int → Nat → Prop) (bb : Int → Nat) (w : World) (sb : Nat) (S : Sk) (gb : Int → Nat) : Prop where
  c : ∀ b : Nat, b < 3 → w.cell? ⟨sb, b, none⟩ = some (.pointer (if S.R b then some ⟨bb b, 0, none⟩ else none))
  f : ∀ b : Nat, b < 3 → w.frozen? ⟨sb, b, none⟩ = false
  bk : ∀ b, S.R b = true → Bkr (G b) w (bb b) (S.P b) (S.W b) (gb b)
  out : ∀ b, S.R b = false → ∀ k, ¬ G b k
  apart : ∀ b b' k, G b k → G b' k → b = b'
  nsb : ∀ b k, G b k → k ≠ sb
/-- the program's stakes: what blocks are theirs; g: how often their maps were written at most -/
def PSk (F : Nat → Prop) (w : World) (sb : Nat) (S : Sk) (g : Nat) : Prop := ∃ G bb, (∀ k, F k ↔ k = sb ∨ ∃ b, G b k) ∧ PSkAt G bb w sb S fun _ => g

section
variable {G : Int → Nat → Prop} {bb : Int → Nat} {w w' : World} {sb : Nat} {S : Sk} {gb : Int → Nat}
theorem PSkAt.lt (h : PSkAt G bb w sb S gb) {b : Int} {k : Nat} (hk : G b k) : k < w.heap.size := by
  cases hr : S.R b with
  | true => exact (h.bk b hr).lt k hk
  | false => exact absurd hk (h.out b hr k)
theorem PSkAt.keptP {F : Nat → Prop} (h : PSkAt G bb w sb S gb) (hK : KeptP F w w') (hF : ∀ b k, F k → ¬ G b k) (hs : ¬ F sb) : PSkAt G bb w' sb S gb :=
  ⟨fun b hb => hK.old (h.c b hb) hs, fun b hb => by rw [hK.frozen (p := ⟨sb, b, none⟩) (cell_lt (h.c b hb)) hs]; exact h.f b hb, fun b hr => (h.bk b hr).keptP hK (hF b), h.out, h.apart, h.nsb⟩
theorem PSkAt.below (h : PSkAt G bb w sb S gb) (hB : Below w.heap.size w w') : PSkAt G bb w' sb S gb := h.keptP (F := fun _ => False) (KeptP.of_below hB) (fun _ _ g => g.elim) (fun g => g)
theorem PSkAt.drewN (h : PSkAt G bb w sb S gb) (n : Nat) : PSkAt G bb (w.drewN n) sb S gb := h.below (below_drewN (Below.refl _ _) n)
theorem PSkAt.base (h : PSkAt G bb w sb S gb) : sb < w.heap.size := cell_lt (h.c 0 (by omega))
/-- one baker turned -/
theorem PSkAt.turn (h : PSkAt G bb w sb S gb) {b : Int} (hr : S.R b = true) {G' : Nat → Prop} {P' : St} {W' : Int → St} {g' : Nat} (hB : Bkr G' w' (bb b) P' W' g') (hM : Moved (G b) G' w w')
    {S' : Sk} (hR : ∀ i, S'.R i = S.R i) (hP : S'.P b = P') (hW : S'.W b = W') (hPo : ∀ i, i ≠ b → S'.P i = S.P i) (hWo : ∀ i, i ≠ b → S'.W i = S.W i) : PSkAt (set1 G b G') bb w' sb S' (set1 gb b g') := by
  have ns : ¬ G b sb := fun g => h.nsb b sb g rfl
  have old : ∀ i k, set1 G b G' i k → G i k ∨ (i = b ∧ w.heap.size ≤ k) := fun i k g => by
    by_cases e : i = b
    · subst e
      rw [set1_same] at g
      rcases Nat.lt_or_ge k w.heap.size with l | l
      · exact .inl (hM.old k l g)
      · exact .inr ⟨rfl, l⟩
    · rw [set1_other _ _ _ _ e] at g
      exact .inl g
  refine ⟨fun i hi => ?_, fun i hi => ?_, fun i hi => ?_, fun i hi k g => ?_, fun i j k gi gj => ?_, fun i k g => ?_⟩
  · rw [hR]; exact hM.kept.old (h.c i hi) ns
  · rw [hM.kept.frozen (p := ⟨sb, i, none⟩) (cell_lt (h.c i hi)) ns]; exact h.f i hi
  · by_cases e : i = b
    · subst e
      rw [set1_same, set1_same, hP, hW]
      exact hB
    · rw [set1_other _ _ _ _ e, set1_other _ _ _ _ e, hPo i e, hWo i e]
      exact (h.bk i (by rw [← hR]; exact hi)).keptP hM.kept (fun k g g2 => e (h.apart i b k g2 g))
  · rw [hR] at hi
    rcases old i k g with l | ⟨e, _⟩
    · exact h.out i hi k l
    · rw [e, hr] at hi; cases hi
  · rcases old i k gi with l | ⟨e, l⟩ <;> rcases old j k gj with l2 | ⟨e2, l2⟩
    · exact h.apart i j k l l2
    · have := h.lt l; omega
    · have := h.lt l2; omega
    · rw [e, e2]
  · rcases old i k g with l | ⟨e, l⟩
    · exact h.nsb i k l
    · have := h.base; omega
end
/-- blocks of all bakers, and the stakes' own -/
def owns (G : Int → Nat → Prop) (sb : Nat) : Nat → Prop := fun k => k = sb ∨ ∃ b, G b k
theorem moved_turn {G : Int → Nat → Prop} {F : Nat → Prop} {sb : Nat} {w w' : World} (hf : ∀ k, F k ↔ k = sb ∨ ∃ b, G b k) {b : Int} {G' : Nat → Prop} (hM : Moved (G b) G' w w') : Moved F (owns (set1 G b G') sb) w w' := by
  refine ⟨hM.kept.mono fun k _ g => (hf k).2 (.inr ⟨b, g⟩), fun k hk g => (hf k).2 ?_⟩
  rcases g with e | ⟨i, g⟩
  · exact .inl e
  · refine .inr ⟨i, ?_⟩
    by_cases e : i = b
    · subst e
      rw [set1_same] at g
      exact hM.old k hk g
    · rw [set1_other _ _ _ _ e] at g
      exact g
theorem PSk.keptP {F G : Nat → Prop} {w w' : World} {sb g : Nat} {S : Sk} (h : PSk F w sb S g) (hK : KeptP G w w') (hF : ∀ k, G k → ¬ F k) : PSk F w' sb S g := by
  obtain ⟨Gs, bb, hf, h⟩ := h
  exact ⟨Gs, bb, hf, h.keptP hK (fun b k g g2 => hF k g ((hf k).2 (.inr ⟨b, g2⟩))) (fun g => hF sb g ((hf sb).2 (.inl rfl)))⟩
theorem PSk.lt {F : Nat → Prop} {w : World} {sb g : Nat} {S : Sk} (h : PSk F w sb S g) (k : Nat) (hk : F k) : k < w.heap.size := by
  obtain ⟨Gs, bb, hf, h⟩ := h
  rcases (hf k).1 hk with e | ⟨b, g⟩
  · rw [e]; exact h.base
  · exact h.lt g
theorem PSkAt.sk {G : Int → Nat → Prop} {bb : Int → Nat} {w : World} {sb g : Nat} {S : Sk} {gb : Int → Nat} (h : PSkAt G bb w sb S gb) (hg : ∀ b, gb b ≤ g) : PSk (owns G sb) w sb S g :=
  ⟨G, bb, fun _ => Iff.rfl, h.c, h.f, fun b hr => (h.bk b hr).more (hg b), h.out, h.apart, h.nsb⟩
theorem PSk.more {F : Nat → Prop} {w : World} {sb g g' : Nat} {S : Sk} (h : PSk F w sb S g) (hg : g ≤ g') : PSk F w sb S g' := by
  obtain ⟨G, bb, hf, h⟩ := h
  exact ⟨G, bb, hf, h.c, h.f, fun b hr => (h.bk b hr).more hg, h.out, h.apart, h.nsb⟩
end Go.Proofs.YtaihcceobnfmhaaDoor
