/-
  WHO OWNS WHICH BLOCK, and why then there is no race: the trace of goroutines that touch their own blocks, only read the shared ones, and hand blocks on.
  AN OWN STEP among many goroutines: who walks on takes one; what is the others' stands, and there is no race by it.
-/
import Derived.Test.YtmbfdhekplnoaaaDoorWalkWX
import Derived.Conc.Beside
import Derived.Test.YtmbfdhekplnoaaaDoorTreesX
import Derived.Conc.Crowd
namespace Go.Proofs.YtmbfdhekplnoaaaDoor
open Go Go.Conc

def blockOf : Loc → Option Nat
  | .cell a => some a.block
  | .obj r => some r
  | _ => none
def SyTouch (t : Trace) (k : Nat) (a : Touch) : Prop := a.kind = .atomic ∨ (a.kind = .said ∧ t.g? k = some 0)
theorem SyTouch.app {t : Trace} {k : Nat} {a : Touch} (h : SyTouch t k a) (u : Trace) : SyTouch (t ++ u) k a := by
  rcases h with h | ⟨h, hg⟩
  · exact .inl h
  · refine .inr ⟨h, ?_⟩
    unfold Trace.g? at hg ⊢
    cases hx : t[k]? with
    | none => rw [hx] at hg; cases hg
    | some x =>
      rw [hx] at hg
      have hlt : k < t.size := (Array.getElem?_eq_some_iff.1 hx).1
      rw [Array.getElem?_append_left hlt, hx]
      exact hg
structure Owners (t : Trace) (A : Nat → Prop) (B : Nat) (Own : Nat → Nat → Prop) (Sh Sy : Nat → Prop) : Prop where
  apart : ∀ i j b, Own i b → Own j b → i = j
  notSh : ∀ i b, Own i b → ¬ Sh b
  lt : ∀ i b, Own i b → b < B
  shlt : ∀ b, Sh b → b < B
  seen : ∀ op ∈ t, op.act.low B
  own : ∀ i b k a, Own i b → touchAt t k = some a → blockOf a.loc = some b → Knows t i k
  sh : ∀ i b k a, A i → Sh b → touchAt t k = some a → blockOf a.loc = some b → a.write = true → Knows t i k
  sylt : ∀ b, Sy b → b < B
  ownSy : ∀ i b, Own i b → ¬ Sy b
  shSy : ∀ b, Sh b → ¬ Sy b
  sy : ∀ b k a, Sy b → touchAt t k = some a → blockOf a.loc = some b → SyTouch t k a ∨ ∀ i, A i → Knows t i k
  clean : ∀ said, ¬ Race said t
section owners
variable {t : Trace} {A : Nat → Prop} {B : Nat} {Own : Nat → Nat → Prop} {Sh Sy : Nat → Prop}
theorem touch_ofEvent {e : Event} {b : Touch} (h : (MemAct.ofEvent e).touch? = some b) (hg : ∃ O S, EvG O S e) : b.loc = e.loc ∧ b.write = e.write ∧ (blockOf e.loc).isSome := by
  obtain ⟨O, S, hg⟩ := hg
  obtain ⟨loc, wr, sy⟩ := e
  cases loc with
  | cell a =>
    have h : some (⟨.cell a, wr, if sy then .atomic else .plain⟩ : Touch) = some b := h
    cases h; exact ⟨rfl, rfl, rfl⟩
  | obj r =>
    obtain ⟨hs, _⟩ := hg
    have hs : sy = false := hs
    subst hs
    have h : (MemAct.access ⟨.obj r, wr, false⟩).touch? = some b := by cases wr <;> exact h
    have h : some (⟨.obj r, wr, .plain⟩ : Touch) = some b := h
    cases h; exact ⟨rfl, rfl, rfl⟩
  | mark m =>
    cases m with
    | noRoom => cases h
    | extern f => cases h
    | _ => exact hg.elim
  | output => exact hg.elim
  | goroutines => exact hg.elim
theorem evG_block {O S : Nat → Prop} {e : Event} (h : EvG O S e) {b : Nat} (hb : blockOf e.loc = some b) : O b ∨ (S b ∧ e.write = false) := by
  obtain ⟨loc, wr, sy⟩ := e
  cases loc with
  | cell a => cases hb; exact h.2
  | obj r => cases hb; exact h.2
  | _ => cases hb
theorem evG_low {O S : Nat → Prop} {e : Event} {B : Nat} (h : EvG O S e) (hO : ∀ b, O b → b < B) (hS : ∀ b, S b → b < B) : (MemAct.ofEvent e).low B := by
  obtain ⟨loc, wr, sy⟩ := e
  cases loc with
  | cell a => exact h.2.elim (hO _) fun q => hS _ q.1
  | obj r =>
    obtain ⟨hs, q⟩ := h
    have hs : sy = false := hs
    subst hs
    have q2 : r < B := q.elim (hO _) fun q => hS _ q.1
    cases wr <;> exact q2
  | mark m =>
    cases m with
    | noRoom => trivial
    | extern f => trivial
    | _ => exact h.elim
  | output => exact h.elim
  | goroutines => exact h.elim
theorem Owners.step (h : Owners t A B Own Sh Sy) {i : Nat} (hin : A i) {O' : Nat → Prop} {B' : Nat} (hB : B ≤ B') (_ : ∀ b, Own i b → O' b) (new : ∀ b, O' b → Own i b ∨ (B ≤ b ∧ b < B')) {fn : FuncId} {pos : String} {es : Array Event} (hes : ∀ e ∈ es, EvG O' Sh e) :
    Owners (t ++ MemOp.ofEvents i fn pos es) A B' (fun j b => if j = i then O' b else Own j b) Sh Sy := by
  have ops : ∀ op ∈ MemOp.ofEvents i fn pos es, op.g = i ∧ ∃ e ∈ es, op.act = .ofEvent e := by
    intro op hop
    obtain ⟨e, he, rfl⟩ := Go.Conc.mem_ofEvents hop
    exact ⟨rfl, e, he, rfl⟩
  -- what the new part touches
  have tch : ∀ op ∈ MemOp.ofEvents i fn pos es, ∀ a, op.act.touch? = some a → ∃ b, blockOf a.loc = some b ∧ (O' b ∨ (Sh b ∧ a.write = false)) := by
    intro op hop a ha
    obtain ⟨_, e, he, hact⟩ := ops op hop
    rw [hact] at ha
    obtain ⟨g1, g2, g3⟩ := touch_ofEvent ha ⟨_, _, hes e he⟩
    obtain ⟨b, hb⟩ := Option.isSome_iff_exists.1 g3
    refine ⟨b, by rw [g1]; exact hb, ?_⟩
    rw [g2]
    exact evG_block (hes e he) hb
  have olow : ∀ k a, touchAt t k = some a → ∀ b, blockOf a.loc = some b → b < B := by
    intro k a ha b hb
    obtain ⟨x, hx, hxa⟩ := touch_of ha
    have hl := h.seen x (mem_of_getElem? hx)
    obtain ⟨g, f, p, act⟩ := x
    cases act with
    | access e =>
      have hxa : some (⟨e.loc, e.write, if e.sync then .atomic else .plain⟩ : Touch) = some a := hxa
      cases hxa
      have hl : e.loc.low B := hl
      obtain ⟨loc, wr, sy⟩ := e
      cases loc <;> first | (cases hb; exact hl) | cases hb
    | mark m =>
      cases m <;> first | (cases hxa; done) | skip
      all_goals
        (cases hxa; cases hb; exact hl)
    | _ => cases hxa
  have new_knows : ∀ k a, touchAt (t ++ MemOp.ofEvents i fn pos es) k = some a → t.size ≤ k → Knows (t ++ MemOp.ofEvents i fn pos es) i k ∧ ∃ b, blockOf a.loc = some b ∧ (O' b ∨ (Sh b ∧ a.write = false)) := by
    intro k a ha hk
    obtain ⟨x, hx, hxa⟩ := touch_of ha
    rcases getElem?_append_cases hx with ⟨hi, _⟩ | ⟨_, hxu⟩
    · omega
    · have := knows_own hx
      rw [(ops x hxu).1] at this
      exact ⟨this, tch x hxu a hxa⟩
  have old_touch : ∀ k a, touchAt (t ++ MemOp.ofEvents i fn pos es) k = some a → k < t.size → touchAt t k = some a := fun k a ha hk => by rwa [touchAt_old hk] at ha
  have notSh' : ∀ b, O' b → ¬ Sh b := fun b hb hs => by
    rcases new b hb with q | q
    · exact h.notSh i b q hs
    · have := h.shlt b hs; omega
  refine ⟨fun j k b hj hk => ?_, fun j b hj => ?_, fun j b hj => ?_, fun b hb => Nat.lt_of_lt_of_le (h.shlt b hb) hB, fun op hop => ?_, fun j b k a hj ha hb => ?_, fun j b k a hj hs ha hb hwr => ?_, fun b hb => Nat.lt_of_lt_of_le (h.sylt b hb) hB, fun j b hj hy => ?_, h.shSy, fun b k a hy ha hb => ?_, fun said => ?_⟩
  · by_cases j1 : j = i
    · by_cases k1 : k = i
      · rw [j1, k1]
      · rw [if_pos j1] at hj
        rw [if_neg k1] at hk
        rcases new b hj with q | q
        · exact absurd (h.apart k i b hk q) k1
        · have := h.lt k b hk; omega
    · rw [if_neg j1] at hj
      by_cases k1 : k = i
      · rw [if_pos k1] at hk
        rcases new b hk with q | q
        · exact absurd (h.apart j i b hj q) j1
        · have := h.lt j b hj; omega
      · rw [if_neg k1] at hk
        exact h.apart j k b hj hk
  · by_cases j1 : j = i
    · rw [if_pos j1] at hj; exact notSh' b hj
    · rw [if_neg j1] at hj; exact h.notSh j b hj
  · by_cases j1 : j = i
    · rw [if_pos j1] at hj
      rcases new b hj with q | q
      · have := h.lt i b q; omega
      · exact q.2
    · rw [if_neg j1] at hj
      have := h.lt j b hj; omega
  · rcases Array.mem_append.1 hop with q | q
    · exact MemAct.low_mono hB (h.seen op q)
    · obtain ⟨_, e, he, hact⟩ := ops op q
      rw [hact]
      refine evG_low (hes e he) (fun b hb => ?_) fun b hb => Nat.lt_of_lt_of_le (h.shlt b hb) hB
      rcases new b hb with q | q
      · have := h.lt i b q; omega
      · exact q.2
  · rcases Nat.lt_or_ge k t.size with hk | hk
    · have ha' := old_touch k a ha hk
      have hlt := olow k a ha' b hb
      by_cases j1 : j = i
      · rw [if_pos j1] at hj
        rcases new b hj with q | q
        · rw [j1]; exact (h.own i b k a q ha' hb).app _
        · omega
      · rw [if_neg j1] at hj
        exact (h.own j b k a hj ha' hb).app _
    · obtain ⟨hkn, b', hb', hor⟩ := new_knows k a ha hk
      have : b' = b := Option.some.inj (hb'.symm.trans hb)
      subst this
      by_cases j1 : j = i
      · rw [j1]; exact hkn
      · rw [if_neg j1] at hj
        rcases hor with q | q
        · rcases new b' q with z | z
          · exact absurd (h.apart j i b' hj z) j1
          · have := h.lt j b' hj; omega
        · exact absurd q.1 (h.notSh j b' hj)
  · rcases Nat.lt_or_ge k t.size with hk | hk
    · exact (h.sh j b k a hj hs (old_touch k a ha hk) hb hwr).app _
    · obtain ⟨_, b', hb', hor⟩ := new_knows k a ha hk
      have : b' = b := Option.some.inj (hb'.symm.trans hb)
      subst this
      rcases hor with q | q
      · exact absurd hs (notSh' b' q)
      · rw [q.2] at hwr; cases hwr
  · by_cases j1 : j = i
    · rw [if_pos j1] at hj
      rcases new b hj with q | q
      · exact h.ownSy i b q hy
      · have := h.sylt b hy; omega
    · rw [if_neg j1] at hj; exact h.ownSy j b hj hy
  · rcases Nat.lt_or_ge k t.size with hk | hk
    · exact (h.sy b k a hy (old_touch k a ha hk) hb).imp (·.app _) fun q l hl => (q l hl).app _
    · obtain ⟨_, b', hb', hor⟩ := new_knows k a ha hk
      have : b' = b := Option.some.inj (hb'.symm.trans hb)
      subst this
      rcases hor with q | q
      · rcases new b' q with z | z
        · exact absurd hy (h.ownSy i b' z)
        · have := h.sylt b' hy; omega
      · exact absurd hy (h.shSy b' q.1)
  · refine noRace_append (h.clean said) (fun op hop => (ops op hop).1) fun k a ha op hop b hb hc => ?_
    obtain ⟨bl, hbl, hor⟩ := tch op hop b hb
    have hloc : a.loc = b.loc := hc.1
    have hab : blockOf a.loc = some bl := by rw [hloc]; exact hbl
    rcases hor with q | q
    · rcases new bl q with z | z
      · exact h.own i bl k a z ha hab
      · have := olow k a ha bl hab; omega
    · obtain ⟨_, _, hwr, _⟩ := hc
      rw [q.2] at hwr
      exact h.sh i bl k a hin q.1 ha hab (by simpa using hwr)
theorem knows_pass {u : Trace} {i j k p q : Nat} {y z : MemOp} (h : Knows t i k) (hp : t.size ≤ p) (hy : (t ++ u)[p]? = some y) (hyi : y.g = i) (hz : (t ++ u)[q]? = some z) (hzj : z.g = j) (e : HappensBefore (t ++ u) p q) : Knows (t ++ u) j k :=
  ⟨q, z, hz, hzj, .inr ((h.hb_new hp hy hyi).trans e)⟩
theorem noRace_quiet {said : Bool} {u : Trace} (h : ¬ Race said t) (hu : ∀ op ∈ u, op.act.touch? = none) : ¬ Race said (t ++ u) := by
  rintro ⟨i, j, hij, ⟨a, b, ha, hb, hc⟩, n1, n2⟩
  obtain ⟨x, hx, hxa⟩ := touch_of ha
  obtain ⟨y, hy, hyb⟩ := touch_of hb
  rcases getElem?_append_cases hx with ⟨_, hx'⟩ | ⟨_, hxu⟩
  · rcases getElem?_append_cases hy with ⟨_, hy'⟩ | ⟨_, hyu⟩
    · exact h ⟨i, j, hij, ⟨a, b, by simp [Trace.act?, hx', hxa], by simp [Trace.act?, hy', hyb], hc⟩, fun e => n1 (hb_app u e), fun e => n2 (hb_app u e)⟩
    · rw [hu y hyu] at hyb; cases hyb
  · rw [hu x hxu] at hxa; cases hxa
theorem Owners.pass (h : Owners t A B Own Sh Sy) {u : Trace} {i j : Nat} {A' : Nat → Prop} (hu : ∀ op ∈ u, op.act.touch? = none ∧ op.act.low B) (hin : A i) (hk : ∀ k, Knows t i k → Knows (t ++ u) j k) (X : Nat → Prop) (hX : ∀ b, X b → Own i b) (hm : ∀ l, A' l → A l ∨ l = j) :
    Owners (t ++ u) A' B (fun l b => (l = j ∧ X b) ∨ (Own l b ∧ ¬ X b) ∨ (Own l b ∧ l = j)) Sh Sy := by
  have old : ∀ k a, touchAt (t ++ u) k = some a → touchAt t k = some a := by
    intro k a ha
    obtain ⟨x, hx, hxa⟩ := touch_of ha
    rcases getElem?_append_cases hx with ⟨_, hx'⟩ | ⟨_, hxu⟩
    · rw [touchAt_of hx']; exact hxa
    · rw [(hu x hxu).1] at hxa; cases hxa
  have was : ∀ l b, ((l = j ∧ X b) ∨ (Own l b ∧ ¬ X b) ∨ (Own l b ∧ l = j)) → ∃ l', Own l' b ∧ (l' = l ∨ (l' = i ∧ X b ∧ l = j)) := by
    rintro l b (⟨rfl, hx⟩ | ⟨ho, _⟩ | ⟨ho, _⟩)
    · exact ⟨i, hX b hx, .inr ⟨rfl, hx, rfl⟩⟩
    · exact ⟨l, ho, .inl rfl⟩
    · exact ⟨l, ho, .inl rfl⟩
  refine ⟨fun l l' b hl hl' => ?_, fun l b hl => ?_, fun l b hl => ?_, h.shlt, fun op hop => ?_, fun l b k a hl ha hb => ?_, fun l b k a hl hs ha hb hwr => ?_, h.sylt, fun l b hl hy => ?_, h.shSy, fun b k a hy ha hb => (h.sy b k a hy (old k a ha) hb).imp (·.app u) fun q l hl => (hm l hl).elim (fun z => (q l z).app u) fun z => by subst z; exact hk k (q i hin), fun said => noRace_quiet (h.clean said) fun op hop => (hu op hop).1⟩
  · rcases hl with ⟨rfl, hx⟩ | ⟨ho, hx⟩ | ⟨ho, rfl⟩
    · rcases hl' with ⟨rfl, _⟩ | ⟨_, hx'⟩ | ⟨_, rfl⟩
      · rfl
      · exact absurd hx hx'
      · rfl
    · rcases hl' with ⟨rfl, hx'⟩ | ⟨ho', _⟩ | ⟨ho', _⟩
      · exact absurd hx' hx
      · exact h.apart _ _ b ho ho'
      · exact h.apart _ _ b ho ho'
    · rcases hl' with ⟨rfl, _⟩ | ⟨ho', _⟩ | ⟨ho', rfl⟩
      · rfl
      · exact h.apart _ _ b ho ho'
      · rfl
  · obtain ⟨l', ho, _⟩ := was l b hl
    exact h.notSh l' b ho
  · obtain ⟨l', ho, _⟩ := was l b hl
    exact h.lt l' b ho
  · rcases Array.mem_append.1 hop with q | q
    · exact h.seen op q
    · exact (hu op q).2
  · obtain ⟨l', ho, e⟩ := was l b hl
    have kn := h.own l' b k a ho (old k a ha) hb
    rcases e with rfl | ⟨rfl, _, rfl⟩
    · exact kn.app u
    · exact hk k kn
  · rcases hm l hl with q | rfl
    · exact (h.sh l b k a q hs (old k a ha) hb hwr).app u
    · exact hk k (h.sh i b k a hin hs (old k a ha) hb hwr)
  · obtain ⟨l', ho, _⟩ := was l b hl
    exact h.ownSy l' b ho hy
theorem Owners.meet (h : Owners t A B Own Sh Sy) {u : Trace} {i0 : Nat} (hi0 : ∀ op ∈ u, op.g = i0) (hu : ∀ op ∈ u, op.act.low B ∧ ∀ a, op.act.touch? = some a → A op.g ∧ ∃ b, blockOf a.loc = some b ∧ Sy b ∧ (a.kind = .atomic ∨ (a.kind = .said ∧ op.g = 0))) : Owners (t ++ u) A B Own Sh Sy := by
  have cases_ : ∀ k a, touchAt (t ++ u) k = some a → touchAt t k = some a ∨ ∃ b, blockOf a.loc = some b ∧ Sy b ∧ SyTouch (t ++ u) k a := by
    intro k a ha
    obtain ⟨x, hx, hxa⟩ := touch_of ha
    rcases getElem?_append_cases hx with ⟨_, hx'⟩ | ⟨_, hxu⟩
    · left; rw [touchAt_of hx']; exact hxa
    · obtain ⟨_, b, hb, hy, hk⟩ := (hu x hxu).2 a hxa
      refine .inr ⟨b, hb, hy, hk.imp id fun q => ⟨q.1, ?_⟩⟩
      unfold Trace.g?
      rw [hx]
      exact congrArg some q.2
  refine ⟨h.apart, h.notSh, h.lt, h.shlt, fun op hop => ?_, fun i b k a hi ha hb => ?_, fun i b k a hi hs ha hb hwr => ?_, h.sylt, h.ownSy, h.shSy, fun b k a hy ha hb => ?_, fun said => ?_⟩
  · rcases Array.mem_append.1 hop with q | q
    · exact h.seen op q
    · exact (hu op q).1
  · rcases cases_ k a ha with q | ⟨b', hb', hy, _⟩
    · exact (h.own i b k a hi q hb).app u
    · have : b' = b := Option.some.inj (hb'.symm.trans hb)
      subst this
      exact absurd hy (h.ownSy i b' hi)
  · rcases cases_ k a ha with q | ⟨b', hb', hy, _⟩
    · exact (h.sh i b k a hi hs q hb hwr).app u
    · have : b' = b := Option.some.inj (hb'.symm.trans hb)
      subst this
      exact absurd hy (h.shSy b' hs)
  · rcases cases_ k a ha with q | ⟨_, _, _, q⟩
    · exact (h.sy b k a hy q hb).imp (·.app u) fun z l hl => (z l hl).app u
    · exact .inl q
  · refine noRace_append (h.clean said) hi0 fun k a ha op hop b hb hc => ?_
    obtain ⟨hA, bl, hbl, hy, hkb⟩ := (hu op hop).2 b hb
    have hg := hi0 op hop
    rw [hg] at hA hkb
    obtain ⟨hloc, _, _, hkind⟩ := hc
    rcases h.sy bl k a hy ha (by rw [hloc]; exact hbl) with ka | ka
    · rcases ka with ka | ⟨ka, ga⟩
      · exfalso
        rcases hkb with kb | ⟨kb, _⟩ <;> (rw [ka, kb] at hkind; rcases hkind with q | q | ⟨_, q, _⟩ <;> cases q)
      · rcases hkb with kb | ⟨kb, gb⟩
        · exfalso
          rw [ka, kb] at hkind; rcases hkind with q | q | ⟨_, _, q⟩ <;> cases q
        · obtain ⟨x, hx, hxg⟩ := Option.map_eq_some_iff.1 ga
          have := knows_own hx
          rw [hxg, ← gb] at this
          exact this
    · exact ka i0 hA
end owners
end Go.Proofs.YtmbfdhekplnoaaaDoor

namespace Go.Proofs.YtmbfdhekplnoaaaDoor
open Go Go.Conc

theorem Rely.at (Own Sh : Nat → Prop) (W : World) (d : Nat) : Rely Own Sh W (W.at d) := ⟨Nat.le_refl _, fun _ _ _ => rfl, rfl, rfl, rfl⟩
theorem Rely.of_at {Own Sh : Nat → Prop} {W W1 : World} {d : Nat} (h : Rely Own Sh (W.at d) W1) : Rely Own Sh W W1 := ⟨h.size, h.keep, h.tape, h.os, h.output⟩
theorem Guar.rely {t : Trace} {A : Nat → Prop} {B : Nat} {Own : Nat → Nat → Prop} {Sh Sy : Nat → Prop} (hO : Owners t A B Own Sh Sy) {i j : Nat} (hij : j ≠ i) {O' : Nat → Prop} {W W' : World} {es : Array Event} (h : Guar (Own i) O' Sh W W' es) : Rely (Own j) Sh W W' :=
  ⟨h.size, fun b hb ho => h.keep b hb fun q => ho.elim (fun z => hij (hO.apart j i b z q)) fun z => hO.notSh i b q z, h.tape, h.os, h.output⟩
theorem Guar.sync {t : Trace} {A : Nat → Prop} {B : Nat} {Own : Nat → Nat → Prop} {Sh Sy : Nat → Prop} (hO : Owners t A B Own Sh Sy) {i : Nat} {O' : Nat → Prop} {W W' : World} {es : Array Event} (hB : B ≤ W.heap.size) (h : Guar (Own i) O' Sh W W' es) (b : Nat) (hb : Sy b) : W'.heap[b]? = W.heap[b]? :=
  h.keep b (Nat.lt_of_lt_of_le (hO.sylt b hb) hB) fun q => hO.ownSy i b q hb
def ownUpd (Own : Nat → Nat → Prop) (i : Nat) (O : Nat → Prop) : Nat → Nat → Prop := fun j b => if j = i then O b else Own j b
theorem ownUpd_same (Own : Nat → Nat → Prop) (i : Nat) (O : Nat → Prop) : ownUpd Own i O i = O := by funext b; simp [ownUpd]
theorem ownUpd_other (Own : Nat → Nat → Prop) {i j : Nat} (O : Nat → Prop) (h : j ≠ i) : ownUpd Own i O j = Own j := by funext b; simp [ownUpd, h]
section own
variable {P : Program} {gs : Array Goroutine} {W : World} {sl : Option (Nat × Nat)} {t : Trace} {A : Nat → Prop} {Own : Nat → Nat → Prop} {Sh Sy : Nat → Prop} {Stop : (Nat → Prop) → Goroutine → World → Prop}
end own
end Go.Proofs.YtmbfdhekplnoaaaDoor
