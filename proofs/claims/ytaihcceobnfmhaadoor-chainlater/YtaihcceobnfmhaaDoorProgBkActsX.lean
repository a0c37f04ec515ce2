/-
  An error's value, by its number: none, or one.
  A baker of the program's by its contracts: what waits of a cycle, and taking out.
-/
import Derived.Test.YtaihcceobnfmhaaDoorProgPurseX
import Derived.Test.YtaihcceobnfmhaaDoorProgStkX
import Derived.Test.YtaihcceobnfmhaaDoorProgClone
namespace Go.Proofs.YtaihcceobnfmhaaDoor

theorem ErrIs.nil {A : Nat → Addr} {e : Value} {c : Int} (h : ErrIs A e c) (hc : c = 0) : e = .nilIface := by
  rcases h with ⟨_, rfl⟩ | ⟨i, _, rfl, _⟩
  · rfl
  · omega
theorem ErrIs.err {A : Nat → Addr} {e : Value} {c : Int} (h : ErrIs A e c) (hc : c ≠ 0) : ∃ i, e = sent (A i) := by
  rcases h with ⟨g, _⟩ | ⟨i, _, _, rfl⟩
  · exact absurd g hc
  · exact ⟨i, rfl⟩
end Go.Proofs.YtaihcceobnfmhaaDoor

namespace Go.Proofs.YtaihcceobnfmhaaDoor
open Go.RowKit Go.Maps

theorem zeroPool (w : World) : (zeroValue 73).run Tryd.prog w = .ok (.pointer none) w := by kernel_rfl
section
variable {tag : Nat → Tg} {w : World} {bb p pm wm g : Nat} {P : St} {H : Int → Bool} {q qm : Int → Nat} {W : Int → St} {gw : Int → Nat}
end

/-- a baker with a new pool, and a pool more (or one turned) of what waits -/
theorem BkAt.remade {tag : Nat → Tg} {w w' : World} {bb p pm wm g : Nat} {P : St} {H : Int → Bool} {q qm : Int → Nat} {W : Int → St} {gw : Int → Nat} (h : BkAt tag w bb p pm wm P g H q qm W gw)
    {p' pm' x xm : Nat} {c : Int} {P' X : St} {g' : Nat} (hg : ∀ d, gw d ≤ g') (hp : w.heap.size ≤ p') (hpm : w.heap.size ≤ pm') (hx : (x = q c ∧ xm = qm c ∧ H c = true) ∨ (w.heap.size ≤ x ∧ w.heap.size ≤ xm ∧ x ≠ p' ∧ x ≠ pm' ∧ xm ≠ p' ∧ xm ≠ pm'))
    (hK : KeptP (fun k => tag k = .base ∨ tag k = .wmap ∨ k = x ∨ k = xm) w w') (c0 : w'.cell? ⟨bb, 0, none⟩ = some (.pointer (some ⟨p', 0, none⟩))) (c1 : w'.cell? ⟨bb, 1, none⟩ = some (.map (some wm))) (f0 : w'.frozen? ⟨bb, 0, none⟩ = false)
    (hP : PoolAt w' p' pm' P' g') (hX : PoolAt w' x xm X g') :
    ∃ tag', BkAt tag' w' bb p' pm' wm P' g' (set1 H c true) (set1 q c x) (set1 qm c xm) (set1 W c X) (fun _ => g') ∧ ∀ k, k < w.heap.size → tag' k ≠ .no → tag k ≠ .no := by
  have lt := h.tin
  have new : ∀ k, w.heap.size ≤ k → tag k = .no := fun k hk => Classical.byContradiction fun e => by have := lt k e; omega
  have ltb : bb < w.heap.size := lt bb (by rw [h.tb]; intro e; cases e)
  have ltm : wm < w.heap.size := lt wm (by rw [h.tm]; intro e; cases e)
  have ltq : ∀ d, H d = true → q d < w.heap.size ∧ qm d < w.heap.size := fun d hd => ⟨lt _ (by rw [(h.wait d hd).1]; intro e; cases e), lt _ (by rw [(h.wait d hd).2.1]; intro e; cases e)⟩
  have nx : x ≠ p' ∧ x ≠ pm' ∧ xm ≠ p' ∧ xm ≠ pm' := by
    rcases hx with ⟨e1, e2, hH⟩ | ⟨_, _, r⟩
    · have := ltq c hH
      rw [e1, e2]; omega
    · exact r
  -- the tags
  refine ⟨fun k => if k = p' ∨ k = pm' then .pool else if k = x ∨ k = xm then .wait c else tag k, ?_, ?_⟩
  · have old : ∀ k, k < w.heap.size → k ≠ x → k ≠ xm → (if k = p' ∨ k = pm' then Tg.pool else if k = x ∨ k = xm then .wait c else tag k) = tag k := fun k hk h1 h2 => by rw [if_neg (by omega), if_neg (by omega)]
    have nbx : bb ≠ x ∧ bb ≠ xm := by
      rcases hx with ⟨e1, e2, hH⟩ | ⟨g1, g2, _⟩
      · obtain ⟨t1, t2, _⟩ := h.wait c hH
        constructor <;> intro e
        · rw [← e1, ← e, h.tb] at t1; cases t1
        · rw [← e2, ← e, h.tb] at t2; cases t2
      · omega
    have nmx : wm ≠ x ∧ wm ≠ xm := by
      rcases hx with ⟨e1, e2, hH⟩ | ⟨g1, g2, _⟩
      · obtain ⟨t1, t2, _⟩ := h.wait c hH
        constructor <;> intro e
        · rw [← e1, ← e, h.tm] at t1; cases t1
        · rw [← e2, ← e, h.tm] at t2; cases t2
      · omega
    refine ⟨c0, c1, f0, ?_, ?_, ?_, ?_, hP, fun d hd => ?_, fun k hk => ?_⟩
    · show (if bb = p' ∨ bb = pm' then Tg.pool else if bb = x ∨ bb = xm then .wait c else tag bb) = .base
      rw [old bb ltb nbx.1 nbx.2]; exact h.tb
    · exact if_pos (.inl rfl)
    · exact if_pos (.inr rfl)
    · show (if wm = p' ∨ wm = pm' then Tg.pool else if wm = x ∨ wm = xm then .wait c else tag wm) = .wmap
      rw [old wm ltm nmx.1 nmx.2]; exact h.tm
    · by_cases e : d = c
      · subst e
        rw [set1_same, set1_same, set1_same]
        refine ⟨?_, ?_, hX⟩
        · show (if x = p' ∨ x = pm' then Tg.pool else if x = x ∨ x = xm then .wait d else tag x) = .wait d
          rw [if_neg (by omega), if_pos (.inl rfl)]
        · show (if xm = p' ∨ xm = pm' then Tg.pool else if xm = x ∨ xm = xm then .wait d else tag xm) = .wait d
          rw [if_neg (by omega), if_pos (.inr rfl)]
      · rw [set1_other _ _ _ _ e] at hd
        rw [set1_other _ _ _ _ e, set1_other _ _ _ _ e, set1_other _ _ _ _ e]
        obtain ⟨u1, u2, hu⟩ := h.wait d hd
        obtain ⟨l1, l2⟩ := ltq d hd
        have nq : q d ≠ x ∧ q d ≠ xm ∧ qm d ≠ x ∧ qm d ≠ xm := by
          rcases hx with ⟨e1, e2, hH⟩ | ⟨g1, g2, _⟩
          · obtain ⟨t1, t2, _⟩ := h.wait c hH
            refine ⟨fun i => ?_, fun i => ?_, fun i => ?_, fun i => ?_⟩
            · rw [i, e1, t1] at u1; cases u1; exact e rfl
            · rw [i, e2, t2] at u1; cases u1; exact e rfl
            · rw [i, e1, t1] at u2; cases u2; exact e rfl
            · rw [i, e2, t2] at u2; cases u2; exact e rfl
          · omega
        refine ⟨(old _ l1 nq.1 nq.2.1).trans u1, (old _ l2 nq.2.2.1 nq.2.2.2).trans u2, (hu.keptP hK ?_ ?_).more (hg d)⟩
        · rintro (g1 | g1 | g1 | g1)
          · rw [u1] at g1; cases g1
          · rw [u1] at g1; cases g1
          · exact nq.1 g1
          · exact nq.2.1 g1
        · rintro (g1 | g1 | g1 | g1)
          · rw [u2] at g1; cases g1
          · rw [u2] at g1; cases g1
          · exact nq.2.2.1 g1
          · exact nq.2.2.2 g1
    · have hp' := hP.lt
      have hx' := hX.lt
      by_cases e1 : k = p' ∨ k = pm'
      · rcases e1 with e | e
        · rw [e]; exact hp'.1
        · rw [e]; exact hp'.2
      · by_cases e2 : k = x ∨ k = xm
        · rcases e2 with e | e
          · rw [e]; exact hx'.1
          · rw [e]; exact hx'.2
        · have hk' : (if k = p' ∨ k = pm' then Tg.pool else if k = x ∨ k = xm then .wait c else tag k) ≠ .no := hk
          rw [if_neg e1, if_neg e2] at hk'
          exact Nat.lt_of_lt_of_le (lt k hk') hK.size
  · intro k hk ht
    have ht' : (if k = p' ∨ k = pm' then Tg.pool else if k = x ∨ k = xm then .wait c else tag k) ≠ .no := ht
    rw [if_neg (by omega)] at ht'
    by_cases e2 : k = x ∨ k = xm
    · rcases hx with ⟨e1, e3, hH⟩ | ⟨g1, g2, _⟩
      · obtain ⟨t1, t2, _⟩ := h.wait c hH
        rcases e2 with e | e
        · rw [e, e1, t1]; intro i; cases i
        · rw [e, e3, t2]; intro i; cases i
      · omega
    · rw [if_neg e2] at ht'
      exact ht'

/-- where a pool of what waits lies, and the new pool -/
theorem taken_apart {tag : Nat → Tg} {w w2 : World} {bb p pm wm g : Nat} {P : St} {H : Int → Bool} {q qm : Int → Nat} {W : Int → St} {gw : Int → Nat} (h : BkAt tag w bb p pm wm P g H q qm W gw)
    {p' pm' x xm : Nat} {c : Int} (_hs : w.heap.size ≤ w2.heap.size) (hp : w.heap.size ≤ p') (hpm : w.heap.size ≤ pm') (hlt : p' < w2.heap.size ∧ pm' < w2.heap.size)
    (hx : (x = q c ∧ xm = qm c ∧ H c = true) ∨ (w2.heap.size ≤ x ∧ w2.heap.size ≤ xm ∧ H c = false)) :
    ((x = q c ∧ xm = qm c ∧ H c = true) ∨ (w.heap.size ≤ x ∧ w.heap.size ≤ xm ∧ x ≠ p' ∧ x ≠ pm' ∧ xm ≠ p' ∧ xm ≠ pm')) ∧ x ≠ p' ∧ x ≠ pm' ∧ xm ≠ p' ∧ xm ≠ pm' ∧ bb ≠ x ∧ bb ≠ xm ∧ wm ≠ x ∧ wm ≠ xm := by
  have ltb : bb < w.heap.size := h.tin bb (by rw [h.tb]; intro e; cases e)
  have ltm : wm < w.heap.size := h.tin wm (by rw [h.tm]; intro e; cases e)
  rcases hx with ⟨e1, e2, hH⟩ | ⟨g1, g2, _⟩
  · obtain ⟨t1, t2, _⟩ := h.wait c hH
    have l1 : q c < w.heap.size := h.tin _ (by rw [t1]; intro e; cases e)
    have l2 : qm c < w.heap.size := h.tin _ (by rw [t2]; intro e; cases e)
    rw [e1, e2]
    refine ⟨.inl ⟨rfl, rfl, hH⟩, by omega, by omega, by omega, by omega, fun e => ?_, fun e => ?_, fun e => ?_, fun e => ?_⟩
    · rw [← e, h.tb] at t1; cases t1
    · rw [← e, h.tb] at t2; cases t2
    · rw [← e, h.tm] at t1; cases t1
    · rw [← e, h.tm] at t2; cases t2
  · refine ⟨.inr ⟨by omega, by omega, by omega, by omega, by omega, by omega⟩, by omega, by omega, by omega, by omega, by omega, by omega, by omega, by omega⟩
theorem stk_old' {w w' : World} (hB : Below w.heap.size w w') {a : Addr} {v : Value} (h : w.cell? a = some v) : w'.cell? a = some v := by rw [hB.cell (cell_lt h)]; exact h
/-- the world behind taking out -/
theorem unstake_end {F : Nat → Prop} {tag : Nat → Tg} {w w3 w4 w6 : World} {bb p pm wm g : Nat} {P : St} {H : Int → Bool} {q qm : Int → Nat} {W : Int → St} {p' pm' x xm : Nat} {c : Int} {P' X : St} (hf : ∀ k, F k ↔ tag k ≠ Tg.no) (hb : BkAt tag w bb p pm wm P g H q qm W (fun _ => g))
    (h0 : ∀ c, H c = false → W c = e0) (hcy : ∀ c, H c = true → Cy c) (hc : Cy c) (hp' : w.heap.size ≤ p') (hpm' : w.heap.size ≤ pm') (hx : (x = q c ∧ xm = qm c ∧ H c = true) ∨ (w.heap.size ≤ x ∧ w.heap.size ≤ xm ∧ x ≠ p' ∧ x ≠ pm' ∧ xm ≠ p' ∧ xm ≠ pm'))
    (nb1 : bb ≠ x) (nb2 : bb ≠ xm) (nm1 : wm ≠ x) (nm2 : wm ≠ xm) (hB3 : Below w.heap.size w w3) (hK4 : Kept [x, xm] w3 w4) (hP4 : PoolAt w4 p' pm' P' (g + 4)) (hX4 : PoolAt w4 x xm X (g + 4))
    (d0 : w4.cell? ⟨bb, 0, none⟩ = some (.pointer (some ⟨p, 0, none⟩))) (d1 : w4.cell? ⟨bb, 1, none⟩ = some (.map (some wm))) (e1 : w4.frozen? ⟨bb, 0, none⟩ = false)
    (hq6 : OwnQ w6 wm (set1 H c true) (set1 q c x) (g + 1)) (hK6 : Kept [wm] (w4.setCell ⟨bb, 0, none⟩ (.pointer (some ⟨p', 0, none⟩))) w6) : ∃ F', Bkr F' w6 bb P' (set1 W c X) (g + 4) ∧ Moved F F' w w6 := by
  have ltb : bb < w.heap.size := hb.tin bb (by rw [hb.tb]; intro e; cases e)
  have ltm : wm < w.heap.size := hb.tin wm (by rw [hb.tm]; intro e; cases e)
  have ne : bb ≠ wm := fun e => by have := hb.tm; rw [← e, hb.tb] at this; cases this
  have a2 : KeptP (fun k => tag k = .base ∨ tag k = .wmap ∨ k = x ∨ k = xm) w3 w4 := KeptP.of_kept hK4 fun k hk => by
    rcases List.mem_cons.1 hk with e | e
    · exact .inr (.inr (.inl e))
    · exact .inr (.inr (.inr (List.mem_singleton.1 e)))
  have a4 := ((KeptP.of_below hB3).trans a2 (fun _ _ g => g)).setCell (p := ⟨bb, 0, none⟩) (.inl hb.tb) (.pointer (some ⟨p', 0, none⟩))
  have a5 : KeptP (fun k => tag k = .base ∨ tag k = .wmap ∨ k = x ∨ k = xm) (w4.setCell ⟨bb, 0, none⟩ (.pointer (some ⟨p', 0, none⟩))) w6 := KeptP.of_kept hK6 fun k hk => .inr (.inl (by rw [List.mem_singleton.1 hk]; exact hb.tm))
  have a6 := a4.trans a5 (fun _ _ g => g)
  have k6 : KeptP (fun k => k = bb ∨ k = wm) w4 w6 := ((KeptP.refl _ _).setCell (p := ⟨bb, 0, none⟩) (.inl rfl) (.pointer (some ⟨p', 0, none⟩))).trans (KeptP.of_kept (F := fun k => k = bb ∨ k = wm) hK6 fun k hk => .inr (List.mem_singleton.1 hk)) (fun _ _ g => g)
  have lt4 : bb < (w4.setCell ⟨bb, 0, none⟩ (.pointer (some ⟨p', 0, none⟩))).heap.size := cell_lt (a := ⟨bb, 0, none⟩) (World.cell?_setCell_same _ _ _ d0)
  obtain ⟨tag', hb', hold⟩ := hb.remade (g' := g + 4) (fun _ => Nat.le_add_right _ _) hp' hpm' hx a6 (hK6.old (World.cell?_setCell_same _ _ _ d0) (by simp [ne])) (hK6.old (by rw [World.cell?_setCell_other _ _ _ _ (by simp)]; exact d1) (by simp [ne]))
    (by rw [hK6.frozen (p := ⟨bb, 0, none⟩) lt4 (by simp [ne]), World.frozen?_setCell]; exact e1) (hP4.keptP k6 (by omega) (by omega)) (hX4.keptP k6 (by omega) (by omega))
  refine ⟨fun k => tag' k ≠ .no, ⟨tag', p', pm', wm, _, _, _, fun _ => Iff.rfl, hb', hq6.more (by omega), fun d hd => ?_, fun d hd => ?_⟩, a6.mono (fun k hk g => (hf k).2 ?_), fun k hk g => (hf k).2 (hold k hk g)⟩
  · have e : d ≠ c := fun e => by rw [e, set1_same] at hd; cases hd
    rw [set1_other _ _ _ _ e] at hd
    rw [set1_other _ _ _ _ e]; exact h0 d hd
  · by_cases e : d = c
    · rw [e]; exact hc
    · rw [set1_other _ _ _ _ e] at hd; exact hcy d hd
  · rcases g with e | e | e | e
    · rw [e]; intro i; cases i
    · rw [e]; intro i; cases i
    · rcases hx with ⟨e1, _, hH⟩ | ⟨g1, _⟩
      · rw [e, e1, (hb.wait c hH).1]; intro i; cases i
      · omega
    · rcases hx with ⟨_, e1, hH⟩ | ⟨_, g1, _⟩
      · rw [e, e1, (hb.wait c hH).2.1]; intro i; cases i
      · omega
/-- nothing of its own has turned -/
theorem Bkr.same {F : Nat → Prop} {w w' : World} {bb g : Nat} {P : St} {W : Int → St} (h : Bkr F w bb P W g) (hB : Below w.heap.size w w') : ∃ F', Bkr F' w' bb P W (g + 4) ∧ Moved F F' w w' := ⟨F, (h.below hB).more (by omega), KeptP.of_below hB, fun _ _ g => g⟩
/-- a pool of what waits came back as it was -/
theorem Bkr.joinNo {F : Nat → Prop} {tag : Nat → Tg} {w w3 w4 : World} {bb p pm wm g : Nat} {P : St} {H : Int → Bool} {q qm : Int → Nat} {W : Int → St} {x xm : Nat} {c : Int} (hf : ∀ k, F k ↔ tag k ≠ Tg.no) (hb : BkAt tag w bb p pm wm P g H q qm W (fun _ => g)) (hq : OwnQ w wm H q g)
    (h0 : ∀ c, H c = false → W c = e0) (hcy : ∀ c, H c = true → Cy c) (hx : (x = q c ∧ xm = qm c ∧ H c = true) ∨ (w.heap.size ≤ x ∧ w.heap.size ≤ xm)) (hB3 : Below w.heap.size w w3) (hK4 : Kept [x, xm] w3 w4) (hX4 : PoolAt w4 x xm (W c) (g + 4)) : ∃ F', Bkr F' w4 bb P W (g + 4) ∧ Moved F F' w w4 := by
  rcases hx with ⟨rfl, rfl, hH⟩ | ⟨g1, g2⟩
  · have hb3 := hb.keptP (KeptP.of_below (F := fun _ => False) hB3) (fun _ g => g.elim)
    obtain ⟨hb4, hT⟩ := hb3.waitTurned hH hK4 hX4
    have hq4 : OwnQ w4 wm H q g := (hq.of_block (hB3.block wm hq.lt)).of_block (hT.block wm (Nat.lt_of_lt_of_le hq.lt hB3.size) (by rw [hb.tm]; intro e; cases e))
    refine ⟨F, ⟨tag, p, pm, wm, H, q, qm, hf, (hb4.moreP (by omega)).congr (fun d _ => ?_) (fun d _ => ?_), hq4.more (by omega), h0, hcy⟩, ((KeptP.of_below hB3).trans hT (fun k _ e => (hf k).2 (by rw [e]; intro i; cases i))), fun _ _ g => g⟩
    · by_cases e : d = c
      · subst e; rw [set1_same]
      · rw [set1_other _ _ _ _ e]
    · by_cases e : d = c
      · subst e; rw [set1_same]; exact Nat.le_refl _
      · rw [set1_other _ _ _ _ e]; omega
  · have hB4 : Below w.heap.size w w4 := hB3.trans (hK4.below hB3.size (by simp [g1, g2]))
    have h : Bkr F w bb P W g := ⟨tag, p, pm, wm, H, q, qm, hf, hb, hq, h0, hcy⟩
    exact h.same hB4
/-- what taking out makes: a code, the baker's pool, what waits -/
def ustC (P : St) (W : Int → St) (o n c : Int) : Int := if P.takeC o n ≠ 0 then P.takeC o n else (W c).joinC o n
def UstEnd (F : Nat → Prop) (bb g : Nat) (P : St) (W : Int → St) (o n c : Int) (A : Nat → Addr) (w : World) (e : Ending) (w' : World) : Prop := ∃ ev F', e = .returned ev ∧ ErrIs A ev (ustC P W o n c) ∧
  (if ustC P W o n c = 0 then Bkr F' w' bb (P.take o n) (set1 W c ((W c).join o n)) (g + 4) else Bkr F' w' bb P W (g + 4)) ∧ Moved F F' w w'
end Go.Proofs.YtaihcceobnfmhaaDoor
