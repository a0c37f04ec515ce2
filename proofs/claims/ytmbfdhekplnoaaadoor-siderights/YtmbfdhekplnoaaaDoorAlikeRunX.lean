/-
  What a run draws is all that it asks of the tape: elsewhere on another tape it draws the same.
  A goroutine's own step asks of the tape what it draws, and nothing else.
  A lone call's run, wherever on the tape each of its steps is taken: it goes on to its end, and comes to it.
-/
import Derived.Conc.Events
import Derived.Conc.Own
import Derived.Test.YtmbfdhekplnoaaaDoorAlikeStep2X
namespace Go.Proofs.YtmbfdhekplnoaaaDoor
open Go Go.Conc

def World.tp (w : World) (τ : Nat → Question → Nat) (d : Nat) : World := { w with tape := τ, drawn := d }
section far
variable (P : Program) (w : World) (τ : Nat → Question → Nat) (d : Nat)
theorem farLoad_tp (a : Addr) (at_ : Bool) : (World.tp w τ d).farLoad P a at_ = w.farLoad P a at_ := rfl
theorem viewStore_tp (a : Addr) (u : TypeId) (k : Addr) (v : Value) (at_ : Bool) :
    (∃ e, (World.tp w τ d).viewStore P a u k v at_ = .error e ∧ w.viewStore P a u k v at_ = .error e) ∨ ∃ h l, (World.tp w τ d).viewStore P a u k v at_ = .ok ({ (World.tp w τ d) with heap := h }, l) ∧ w.viewStore P a u k v at_ = .ok ({ w with heap := h }, l) := by
  unfold World.viewStore
  have hs : (World.tp w τ d).seen P a u k at_ = w.seen P a u k at_ := rfl
  rw [hs]
  by_cases h1 : (!tight P P.depth u) = true
  · rw [if_pos h1, if_pos h1]; exact .inl ⟨_, rfl, rfl⟩
  · rw [if_neg h1, if_neg h1]
    cases w.seen P a u k at_ with
    | error e => exact .inl ⟨e, rfl, rfl⟩
    | ok z =>
      obtain ⟨c, e, frozen, first, like, cells⟩ := z
      cases hb : v.bytes? with
      | none => exact .inl ⟨_, rfl, rfl⟩
      | some bytes =>
        simp only [bind, Except.bind, pure, Except.pure]
        split
        · exact .inl ⟨_, rfl, rfl⟩
        · split
          · exact .inl ⟨_, rfl, rfl⟩
          · exact .inr ⟨_, _, rfl, rfl⟩
theorem farStore_tp (a : Addr) (v : Value) (at_ : Bool) :
    (∃ e, (World.tp w τ d).farStore P a v at_ = .error e ∧ w.farStore P a v at_ = .error e) ∨ ∃ h l, (World.tp w τ d).farStore P a v at_ = .ok ({ (World.tp w τ d) with heap := h }, l) ∧ w.farStore P a v at_ = .ok ({ w with heap := h }, l) := by
  unfold World.farStore
  have hh : (World.tp w τ d).heap = w.heap := rfl
  have hn : ∀ s, (World.tp w τ d).noCell a s = w.noCell a s := fun _ => rfl
  rw [hh, hn]
  split
  · rename_i x y _
    rcases viewStore_tp P w τ d x y a v at_ with ⟨e, h1, h2⟩ | ⟨h, l, h1, h2⟩
    · rw [h1, h2]; exact .inl ⟨_, rfl, rfl⟩
    · rw [h1, h2]; exact .inr ⟨h, l, rfl, rfl⟩
  · exact .inl ⟨_, rfl, rfl⟩
end far
theorem runT_grows {α : Type} (P : Program) (s : Sem α) : ∀ (w : World) (es : Array Event) (e : Event), e ∈ es → e ∈ (s.runT P w es).2 := by
  induction s with
  | pure a => intro w es e h; exact h
  | halt g => intro w es e h; exact h
  | load m a k ih =>
    intro w es e h
    unfold Sem.runT
    split
    · exact ih _ _ _ _ (Array.mem_push.2 (.inl h))
    · split
      · exact ih _ _ _ _ (Array.mem_append.2 (.inl h))
      · exact h
  | store m a v k ih =>
    intro w es e h
    cases v <;> unfold Sem.runT <;> first
      | exact h
      | (split
         · split
           · exact h
           · exact ih _ _ _ (Array.mem_push.2 (.inl h))
         · split
           · exact ih _ _ _ (Array.mem_append.2 (.inl h))
           · exact h)
  | new o k ih => intro w es e h; exact ih _ _ _ _ h
  | shape r k ih => intro w es e h; exact ih _ _ _ _ h
  | freeze a n k ih => intro w es e h; exact ih _ _ _ h
  | frozen a k ih => intro w es e h; exact ih _ _ _ _ h
  | getObj r k ih =>
    intro w es e h
    unfold Sem.runT
    split
    · exact h
    · exact ih _ _ _ _ (Array.mem_push.2 (.inl h))
    · exact h
  | setObj r x k ih =>
    intro w es e h
    unfold Sem.runT
    split
    · exact h
    · exact ih _ _ _ (Array.mem_push.2 (.inl h))
    · exact h
  | choose q k ih =>
    intro w es e h
    unfold Sem.runT
    split
    · exact ih _ _ _ _ h
    · exact ih _ _ _ _ h
  | sys c k ih => intro w es e h; exact ih _ _ _ _ (Array.mem_push.2 (.inl h))
  | program k ih => intro w es e h; exact ih _ _ _ _ h
  | mark m k ih => intro w es e h; exact ih _ _ _ (Array.mem_push.2 (.inl h))
def Shifts {α : Type} (P : Program) (s : Sem α) (w : World) : Prop := ∀ es a w1 es1, s.runT P w es = (.ok a w1, es1) → (∀ e ∈ es1, e.loc ≠ .output) →
  w.drawn ≤ w1.drawn ∧ w1.tape = w.tape ∧ ∀ τ d, (∀ j q, j < w1.drawn - w.drawn → τ (d + j) q = w.tape (w.drawn + j) q) → s.runT P (World.tp w τ d) es = (.ok a (World.tp w1 τ (d + (w1.drawn - w.drawn))), es1)
theorem shifts {α : Type} (P : Program) (s : Sem α) : ∀ w, Shifts P s w := by
  induction s with
  | pure a =>
    intro w es b w1 es1 hr ho
    cases hr
    refine ⟨Nat.le_refl _, rfl, fun τ d _ => ?_⟩
    rw [Nat.sub_self, Nat.add_zero]; rfl
  | halt h => intro w es b w1 es1 hr _; cases hr
  | load m a k ih =>
    intro w es b w1 es1 hr ho
    unfold Sem.runT at hr
    cases hc : w.cell? a with
    | some v =>
      rw [hc] at hr
      obtain ⟨h1, h2, h3⟩ := ih v w _ _ _ _ hr ho
      refine ⟨h1, h2, fun τ d ht => ?_⟩
      unfold Sem.runT
      have e : (World.tp w τ d).cell? a = some v := hc
      rw [e]
      exact h3 τ d ht
    | none =>
      rw [hc] at hr
      simp only at hr
      cases hf : w.farLoad P a (m == .atomic) with
      | error x => rw [hf] at hr; cases hr
      | ok z =>
        obtain ⟨v, l⟩ := z
        rw [hf] at hr
        obtain ⟨h1, h2, h3⟩ := ih v w _ _ _ _ hr ho
        refine ⟨h1, h2, fun τ d ht => ?_⟩
        unfold Sem.runT
        have e : (World.tp w τ d).cell? a = none := hc
        rw [e]
        simp only
        rw [farLoad_tp, hf]
        exact h3 τ d ht
  | store m a v k ih =>
    intro w es b w1 es1 hr ho
    by_cases hv : (∀ c, v ≠ .agg c) ∧ ∀ c, v ≠ .tuple c
    · have rs : ∀ (w : World) (es : Array Event), (Sem.store m a v k).runT P w es = (match w.cell? a with
          | some _ => if w.frozen? a then (.halt (.unsupported (.unsafePointer "a write to bytes that a string shares")) w, es) else k.runT P (w.setCell a v) (es.push ⟨.cell a, true, m == .atomic⟩)
          | none => match w.farStore P a v (m == .atomic) with
            | .ok (w, touched) => k.runT P w (es ++ touched.toArray.map (⟨.cell ·, true, m == .atomic⟩))
            | .error h => (.halt h w, es)) := by
        intro w es
        cases v <;> first | rfl | exact absurd rfl (hv.1 _) | exact absurd rfl (hv.2 _)
      rw [rs] at hr
      cases hc : w.cell? a with
      | some x =>
        rw [hc] at hr
        simp only at hr
        by_cases hz : w.frozen? a = true
        · rw [if_pos hz] at hr; cases hr
        · rw [if_neg hz] at hr
          obtain ⟨h1, h2, h3⟩ := ih (w.setCell a v) _ _ _ _ hr ho
          refine ⟨h1, h2, fun τ d ht => ?_⟩
          rw [rs]
          have e : (World.tp w τ d).cell? a = some x := hc
          have e2 : ¬ (World.tp w τ d).frozen? a = true := hz
          rw [e]
          simp only
          rw [if_neg e2]
          exact h3 τ d ht
      | none =>
        rw [hc] at hr
        simp only at hr
        have fs := fun τ d => farStore_tp P w τ d a v (m == .atomic)
        rcases fs w.tape w.drawn with ⟨x, _, h2⟩ | ⟨h, l, _, h2⟩
        · rw [h2] at hr; cases hr
        · rw [h2] at hr
          simp only at hr
          obtain ⟨g1, g2, g3⟩ := ih { w with heap := h } _ _ _ _ hr ho
          refine ⟨g1, g2, fun τ d ht => ?_⟩
          rw [rs]
          have e : (World.tp w τ d).cell? a = none := hc
          rw [e]
          simp only
          rcases fs τ d with ⟨x, _, q2⟩ | ⟨h', l', q1, q2⟩
          · rw [h2] at q2; cases q2
          · rw [h2] at q2
            have q3 := Except.ok.inj q2
            have q4 : h = h' := congrArg (fun z : World × List Addr => z.1.heap) q3
            have q5 : l = l' := congrArg (fun z : World × List Addr => z.2) q3
            subst q4; subst q5
            rw [q1]
            exact g3 τ d ht
    · have : ∃ h, ∀ w es, (Sem.store m a v k).runT P w es = (.halt h w, es) := by
        cases v <;> first | exact ⟨_, fun _ _ => rfl⟩ | exact absurd ⟨fun c q => (by cases q), fun c q => (by cases q)⟩ hv
      obtain ⟨h, e⟩ := this
      rw [e] at hr; cases hr
  | new o k ih =>
    intro w es b w1 es1 hr ho
    obtain ⟨h1, h2, h3⟩ := ih w.heap.size { w with heap := w.heap.push o } _ _ _ _ hr ho
    exact ⟨h1, h2, fun τ d ht => h3 τ d ht⟩
  | shape r k ih =>
    intro w es b w1 es1 hr ho
    obtain ⟨h1, h2, h3⟩ := ih (w.shape? r) w _ _ _ _ hr ho
    exact ⟨h1, h2, fun τ d ht => h3 τ d ht⟩
  | freeze a n k ih =>
    intro w es b w1 es1 hr ho
    have hd : (w.freeze a n).drawn = w.drawn ∧ (w.freeze a n).tape = w.tape := by unfold World.freeze; split <;> exact ⟨rfl, rfl⟩
    have ht' : ∀ τ d, (World.tp w τ d).freeze a n = World.tp (w.freeze a n) τ d := fun τ d => by unfold World.freeze; split <;> rfl
    obtain ⟨h1, h2, h3⟩ := ih (w.freeze a n) _ _ _ _ hr ho
    rw [hd.1] at h1 h3
    rw [hd.2] at h2 h3
    refine ⟨h1, h2, fun τ d ht => ?_⟩
    show k.runT P ((World.tp w τ d).freeze a n) es = _
    rw [ht']
    exact h3 τ d ht
  | frozen a k ih =>
    intro w es b w1 es1 hr ho
    obtain ⟨h1, h2, h3⟩ := ih (w.frozen? a) w _ _ _ _ hr ho
    exact ⟨h1, h2, fun τ d ht => h3 τ d ht⟩
  | getObj r k ih =>
    intro w es b w1 es1 hr ho
    unfold Sem.runT at hr
    cases hob : w.heap[r]? with
    | none => rw [hob] at hr; cases hr
    | some o =>
      rw [hob] at hr
      have e : ∀ τ d, (World.tp w τ d).heap[r]? = some o := fun _ _ => hob
      cases o <;> first
        | (cases hr; done)
        | (obtain ⟨h1, h2, h3⟩ := ih _ w _ _ _ _ hr ho
           refine ⟨h1, h2, fun τ d ht => ?_⟩
           unfold Sem.runT
           rw [e]
           exact h3 τ d ht)
  | setObj r x k ih =>
    intro w es b w1 es1 hr ho
    unfold Sem.runT at hr
    cases hob : w.heap[r]? with
    | none => rw [hob] at hr; cases hr
    | some o =>
      rw [hob] at hr
      have e : ∀ τ d, (World.tp w τ d).heap[r]? = some o := fun _ _ => hob
      cases o <;> first
        | (cases hr; done)
        | (obtain ⟨h1, h2, h3⟩ := ih { w with heap := w.heap.setIfInBounds r x } _ _ _ _ hr ho
           refine ⟨h1, h2, fun τ d ht => ?_⟩
           unfold Sem.runT
           rw [e]
           exact h3 τ d ht)
  | choose q k ih =>
    intro w es b w1 es1 hr ho
    unfold Sem.runT at hr
    by_cases hq : q.forced = true
    · rw [if_pos hq] at hr
      obtain ⟨h1, h2, h3⟩ := ih 0 w _ _ _ _ hr ho
      refine ⟨h1, h2, fun τ d ht => ?_⟩
      unfold Sem.runT
      rw [if_pos hq]
      exact h3 τ d ht
    · rw [if_neg hq] at hr
      obtain ⟨h1, h2, h3⟩ := ih (q.cut (w.tape w.drawn q)) { w with drawn := w.drawn + 1 } _ _ _ _ hr ho
      have h1' : w.drawn + 1 ≤ w1.drawn := h1
      refine ⟨by omega, h2, fun τ d ht => ?_⟩
      unfold Sem.runT
      rw [if_neg hq]
      have t0 : τ d q = w.tape w.drawn q := ht 0 q (by omega)
      show (k (q.cut (τ d q))).runT P (World.tp { w with drawn := w.drawn + 1 } τ (d + 1)) es = _
      rw [t0, h3 τ (d + 1) fun j q' hj => ?_]
      · show (Result.ok b (World.tp w1 τ (d + 1 + (w1.drawn - (w.drawn + 1)))), es1) = _
        rw [show d + 1 + (w1.drawn - (w.drawn + 1)) = d + (w1.drawn - w.drawn) from by omega]
      · have := ht (j + 1) q' (by have : j < w1.drawn - (w.drawn + 1) := hj; omega)
        show τ (d + 1 + j) q' = w.tape (w.drawn + 1 + j) q'
        rw [show d + 1 + j = d + (j + 1) from by omega, show w.drawn + 1 + j = w.drawn + (j + 1) from by omega]
        exact this
  | sys c k ih =>
    intro w es b w1 es1 hr ho
    have : (⟨.output, true, false⟩ : Event) ∈ es1 := by
      have := runT_grows P (k (w.sys c).1) (w.sys c).2 (es.push ⟨.output, true, false⟩) _ (Array.mem_push.2 (.inr rfl))
      have hr' : (k (w.sys c).1).runT P (w.sys c).2 (es.push ⟨.output, true, false⟩) = (.ok b w1, es1) := hr
      rw [hr'] at this
      exact this
    exact absurd rfl (ho _ this)
  | program k ih =>
    intro w es b w1 es1 hr ho
    obtain ⟨h1, h2, h3⟩ := ih P w _ _ _ _ hr ho
    exact ⟨h1, h2, fun τ d ht => h3 τ d ht⟩
  | mark m k ih =>
    intro w es b w1 es1 hr ho
    obtain ⟨h1, h2, h3⟩ := ih w _ _ _ _ hr ho
    exact ⟨h1, h2, fun τ d ht => h3 τ d ht⟩
end Go.Proofs.YtmbfdhekplnoaaaDoor

namespace Go.Proofs.YtmbfdhekplnoaaaDoor
open Go Go.Conc

section tape
variable {C : Ctx} {Gl : Nat → Prop} {ρ : Brel} {w : World}
theorem no_output {W W1 : World} {ρ' : Brel} {es : Array Event} (h : Did C ρ ρ' W W1 #[] es) : ∀ e ∈ es, e.loc ≠ .output := by
  obtain ⟨l, e, hl⟩ := h.evs
  intro x hx q
  rw [e] at hx
  have := hl x (by simpa using hx)
  unfold EvOk at this
  rw [q] at this
  exact this
def ShiftsG (P : Program) (g : Goroutine) (w : World) : Prop := ∀ g1 w1 es, stepG P true g w = .go g1 w1 es →
  (∃ o, g1.frame.mode = .panicking o) ∨ (w.drawn ≤ w1.drawn ∧ w1.tape = w.tape ∧ ∀ τ d, (∀ j q, j < w1.drawn - w.drawn → τ (d + j) q = w.tape (w.drawn + j) q) → stepG P true g (World.tp w τ d) = .go g1 (World.tp w1 τ (d + (w1.drawn - w.drawn))) es)
theorem shiftsG_still {P : Program} {g g1 : Goroutine} (h : ∀ w, stepG P true g w = .go g1 w) (w : World) : ShiftsG P g w := by
  intro g2 w2 es hr
  rw [h w] at hr
  cases hr
  refine .inr ⟨Nat.le_refl _, rfl, fun τ d _ => ?_⟩
  rw [h, Nat.sub_self, Nat.add_zero]
theorem shiftsG_ended {P : Program} {g : Goroutine} {w : World} (h : ∃ o w1 es, stepG P true g w = .ended o w1 es) : ShiftsG P g w := by
  intro g2 w2 es hr
  obtain ⟨o, w1, es1, e⟩ := h
  rw [e] at hr; cases hr
theorem step_shift (hZ : Zeros C.P) (hB : Bodies C Gl) {a : Frame} {l cs : List Frame} (hg : ∀ g, Gl g → ρ g g) (h : FR C Gl ρ a a) (hw : WR C ρ w w) (hn : a.mode = .returning → l ≠ []) : ShiftsG C.P (G a (l ++ cs)) w := by
  obtain ⟨fn, t, t', k, m, rfl, h2, h3, h4, h5, h6⟩ := h
  have et : t = t' := congrArg Frame.tmps h2
  subst et
  rcases h6 with rfl | rfl
  · cases k with
    | nil => exact shiftsG_still (fun _ => rfl) w
    | cons x k =>
      have hx0 := h5 x (List.mem_cons_self ..)
      cases x with
      | inBlock id => exact shiftsG_still (fun _ => rfl) w
      | inScope b => exact shiftsG_still (fun _ => rfl) w
      | inLoop b => exact shiftsG_still (fun _ => rfl) w
      | inRegion ops todo =>
        cases todo with
        | nil => exact shiftsG_still (fun _ => rfl) w
        | cons i r =>
          have e0 : ∀ w, stepG C.P true (G (Fr fn t (.inRegion ops (i :: r) :: k) .run) (l ++ cs)) w = (if ((ops[i]?).map (Region.wanted · (yielded ops t))).getD false then stepG.oper C.P true (Fr fn t (.inRegion ops (i :: r) :: k) .run) (l ++ cs) none w else .go (G ((Fr fn t (.inRegion ops (i :: r) :: k) .run).finish undef) (l ++ cs)) w) := fun _ => rfl
          by_cases hw' : ((ops[i]?).map (Region.wanted · (yielded ops t))).getD false = true
          · cases ho : ops[i]? with
            | none => rw [ho] at hw'; cases hw'
            | some o =>
              have e : ∀ w, stepG C.P true (G (Fr fn t (.inRegion ops (i :: r) :: k) .run) (l ++ cs)) w = stepG.apply C.P true (Fr fn t (.inRegion ops (i :: r) :: k) .run) (l ++ cs) none (Go.execOp (Fr fn t (.inRegion ops (i :: r) :: k) .run).eval o) w := by
                intro w
                have : stepG.oper C.P true (Fr fn t (.inRegion ops (i :: r) :: k) .run) (l ++ cs) none w = (match ops[i]? with
                  | none => .ended (.stuck "no operation here" ((Fr fn t (.inRegion ops (i :: r) :: k) .run).pos C.P)) w
                  | some o => stepG.apply C.P true (Fr fn t (.inRegion ops (i :: r) :: k) .run) (l ++ cs) none (Go.execOp (Fr fn t (.inRegion ops (i :: r) :: k) .run).eval o) w) := rfl
                rw [e0, if_pos hw', this, ho]
              have hoo : okOper C Gl (C.IA fn) o := hx0 o (Array.mem_of_getElem? ho)
              have hS := Sim.execOp hZ hB (er_of (fn := fn) (k := .inRegion ops (i :: r) :: k) (m := .run) hg hB.gl h4) hoo w w hw
              intro g1 w1 es1 hr
              rw [e] at hr
              generalize hs : Go.execOp (Fr fn t (.inRegion ops (i :: r) :: k) .run).eval o = s at hS hr e
              cases hrun : s.runT C.P w #[] with
              | mk res es =>
                cases res with
                | halt g w2 =>
                  have hb := hS.1 _ _ _ _ hrun
                  unfold stepG.apply at hr
                  rw [hrun] at hr
                  cases g with
                  | panic v => cases hr; exact .inl ⟨_, rfl⟩
                  | stuck u => cases hr
                  | unsupported u => cases u <;> first | exact hb.elim | cases hr
                  | _ => exact hb.elim
                | ok nx w2 =>
                  obtain ⟨ρ', nx', W1, es', hr', hnx, hw1, hd⟩ := hS.2 #[] #[] nx w2 es hrun
                  rw [hrun] at hr'
                  cases hr'
                  obtain ⟨q1, q2, q3⟩ := shifts C.P s w #[] nx w2 es hrun (no_output hd)
                  have same : w1 = w2 := by
                    unfold stepG.apply at hr
                    rw [hrun] at hr
                    cases hnx <;> (cases hr; rfl)
                  subst same
                  refine .inr ⟨q1, q2, fun τ d ht => ?_⟩
                  rw [e]
                  have q4 := q3 τ d ht
                  unfold stepG.apply at hr ⊢
                  rw [hrun] at hr
                  rw [q4]
                  cases hnx <;> (cases hr; rfl)
          · exact shiftsG_still (fun w => by rw [e0, if_neg hw']) w
      | code c =>
        cases c with
        | skip => exact shiftsG_still (fun _ => rfl) w
        | label n => exact shiftsG_still (fun _ => rfl) w
        | ret => exact shiftsG_still (fun _ => rfl) w
        | refuse s => exact shiftsG_ended ⟨_, _, _, rfl⟩
        | seq a b => exact shiftsG_still (fun _ => rfl) w
        | block id b => exact shiftsG_still (fun _ => rfl) w
        | loop b => exact shiftsG_still (fun _ => rfl) w
        | scope b => exact shiftsG_still (fun _ => rfl) w
        | region id ops draw =>
          cases draw with
          | false => exact shiftsG_still (fun _ => rfl) w
          | true =>
            intro g1 w1 es hr
            have e : ∀ (w : World), stepG C.P true (G (Fr fn t (.code (.region id ops true) :: k) .run) (l ++ cs)) w =
              .go (G (Fr fn t (.inRegion ops (Region.schedule (C.P.follows .mixedOrders) ops (w.tape w.drawn (.order fn id))) :: k) .run) (l ++ cs)) { w with drawn := w.drawn + 1 } := fun _ => rfl
            rw [e] at hr
            cases hr
            refine .inr ⟨Nat.le_succ _, rfl, fun τ d ht => ?_⟩
            have t0 : τ d (.order fn id) = w.tape w.drawn (.order fn id) := ht 0 _ (by show 0 < w.drawn + 1 - w.drawn; omega)
            rw [e]
            show GStep.go (G (Fr fn t (.inRegion ops (Region.schedule (C.P.follows .mixedOrders) ops (τ d (.order fn id))) :: k) .run) (l ++ cs)) (World.tp w τ (d + 1)) = .go _ (World.tp w τ (d + (w.drawn + 1 - w.drawn)))
            rw [t0, show w.drawn + 1 - w.drawn = 1 from by omega]
        | cond c a b =>
          have e : ∀ w, stepG C.P true (G (Fr fn t (.code (.cond c a b) :: k) .run) (l ++ cs)) w = (match (Fr fn t (.code (.cond c a b) :: k) .run).eval c with
            | .bool b' => GStep.go (G (Fr fn t (.code (if b' then a else b) :: k) .run) (l ++ cs)) w
            | _ => .ended (.stuck "cond: bool expected" ((Fr fn t (.code (.cond c a b) :: k) .run).pos C.P)) w) := fun _ => rfl
          by_cases hb : ∃ v, (Fr fn t (.code (.cond c a b) :: k) .run).eval c = .bool v
          · obtain ⟨v, hv⟩ := hb
            exact shiftsG_still (fun w => by rw [e, hv]) w
          · refine shiftsG_ended ?_
            rw [e]
            split
            · rename_i v q; exact absurd ⟨v, q⟩ hb
            · exact ⟨_, _, _, rfl⟩
        | exit id =>
          have e : ∀ w, stepG C.P true (G (Fr fn t (.code (.exit id) :: k) .run) (l ++ cs)) w = (exitTo id k).elim (.ended (.stuck "exit, goto: no such block or label" ((Fr fn t (.code (.exit id) :: k) .run).pos C.P)) w) (fun k' => .go (G (Fr fn t k' .run) (l ++ cs)) w) := fun _ => rfl
          cases hq : exitTo id k with
          | none => exact shiftsG_ended ⟨_, _, _, by rw [e, hq]; rfl⟩
          | some k' => exact shiftsG_still (fun w => by rw [e, hq]; rfl) w
        | goto n => exact hx0.elim
        | rangeFunc a b c d => exact hx0.elim
      | _ => exact hx0.elim
  · cases l with
    | nil => exact absurd rfl (hn rfl)
    | cons c l =>
      obtain ⟨g, g1, gro⟩ := h3
      have e : ∀ (w : World), stepG C.P true (G (Fr fn t k .returning) (c :: (l ++ cs))) w = (match (Go.results g t).runT C.P w #[] with
        | (r, es) => GStep.after (seen C.P fn es) (match r with
          | .ok v w => .go (G (c.finish v) (l ++ cs)) w
          | .halt (.stuck s) w => .ended (.stuck s ((Fr fn t k .returning).pos C.P)) w
          | .halt _ w => .ended (.stuck "return: the result variables cannot be read" ((Fr fn t k .returning).pos C.P)) w)) := by
        intro w
        have : stepG C.P true (G (Fr fn t k .returning) (c :: (l ++ cs))) w = unwind C.P true (Fr fn t k .returning) (c :: (l ++ cs)) none w := rfl
        rw [this]
        unfold unwind
        simp only [Fr]
        rw [g1]
        rfl
      have hS := Sim.results (C := C) (fn := g) gro h4 w w hw
      intro x1 w1 es1 hr
      have hr : stepG C.P true (G (Fr fn t k .returning) (c :: (l ++ cs))) w = .go x1 w1 es1 := hr
      rw [e] at hr
      cases hrun : (Go.results g t).runT C.P w #[] with
      | mk res es =>
        rw [hrun] at hr
        cases res with
        | halt q w2 => cases q <;> cases hr
        | ok v w2 =>
          cases hr
          obtain ⟨ρ', v', W1, es', hr', hv, hw1, hd⟩ := hS.2 #[] #[] v _ es hrun
          rw [hrun] at hr'
          cases hr'
          obtain ⟨q1, q2, q3⟩ := shifts C.P (Go.results g t) w #[] v _ es hrun (no_output hd)
          refine .inr ⟨q1, q2, fun τ d ht => ?_⟩
          show stepG C.P true (G (Fr fn t k .returning) (c :: (l ++ cs))) (World.tp w τ d) = _
          rw [e, q3 τ d ht]
          rfl
end tape
end Go.Proofs.YtmbfdhekplnoaaaDoor

namespace Go.Proofs.YtmbfdhekplnoaaaDoor
open Go Go.Conc

def cst : Frame := { fn := 0, tmps := #[], todo := [.code (.refuse "")], defers := [{ target := .nil, args := #[] }], mode := .run, kind := .normal, roundOf := none }
theorem runN_succ (P : Program) (n : Nat) (m m' : Machine) (h : runN P (n + 1) m = .next m') : ∃ m1, step P m = .next m1 ∧ runN P n m1 = .next m' := by
  simp only [runN] at h
  cases hs : step P m with
  | next m1 => rw [hs] at h; exact ⟨m1, rfl, h⟩
  | ended o w => rw [hs] at h; cases h
theorem runN_snoc (P : Program) : ∀ (n : Nat) (m m1 : Machine), runN P n m = .next m1 → runN P (n + 1) m = step P m1
  | 0, m, m1, h => by
    simp only [runN] at h
    cases h
    simp only [runN]
    cases step P m <;> rfl
  | n + 1, m, m1, h => by
    obtain ⟨m2, h1, h2⟩ := runN_succ P n m m1 h
    have := runN_snoc P n m2 m1 h2
    show (match step P m with | .next m' => runN P (n + 1) m' | e => e) = _
    rw [h1]
    exact this
theorem runN_add (P : Program) : ∀ (n k : Nat) (m m1 : Machine), runN P n m = .next m1 → runN P (n + k) m = runN P k m1
  | 0, k, m, m1, h => by
    simp only [runN] at h
    cases h
    rw [Nat.zero_add]
  | n + 1, k, m, m1, h => by
    obtain ⟨m2, h1, h2⟩ := runN_succ P n m m1 h
    have := runN_add P n k m2 m1 h2
    rw [show n + 1 + k = (n + k) + 1 from by omega]
    show (match step P m with | .next m' => runN P (n + k) m' | e => e) = _
    rw [h1]
    exact this
section run
variable {C : Ctx} {Gl : Nat → Prop}
theorem lone_inj {a b : Frame} {l m : List Frame} {w v : World} (h : lone a l w = lone b m v) : a = b ∧ l = m ∧ w = v := by
  unfold lone at h
  simp only [Machine.mk.injEq, Array.mk.injEq, List.cons.injEq, Goroutine.mk.injEq] at h
  exact ⟨h.2.1.1.1, h.2.1.1.2.1, h.1⟩
theorem step_of_go {P : Program} {a b : Frame} {l m : List Frame} {w v : World} {es : Array Event} (h : stepG P true (G a l) w = .go (G b m) v es) : step P (lone a l w) = .next (lone b m v) :=
  step_lone_go (by show (stepG P true (G a l) w).bare = _; rw [h]; rfl)
theorem step_of_ended {P : Program} {a : Frame} {l : List Frame} {w v : World} {o : Outcome} {es : Array Event} (h : stepG P true (G a l) w = .ended o v es) : step P (lone a l w) = .ended o v :=
  step_lone_ended (by show (stepG P true (G a l) w).bare = _; rw [h]; rfl)
theorem panic_end (P : Program) : ∀ (l : List Frame) (fr : Frame) (w : World), fr.defers = [] → (∃ ch, fr.mode = .panicking ch) → (∀ c ∈ l, c.defers = []) → ∀ N fr' w', runN P N (lone fr (l ++ [cst]) w) = .next (lone fr' [cst] w') → fr'.mode ≠ .returning := by
  intro l
  induction l with
  | nil =>
    intro fr w hd ⟨ch, hm⟩ _ N fr' w' hr
    cases N with
    | zero =>
      simp only [runN] at hr
      obtain ⟨rfl, _, _⟩ := lone_inj (Stepped.next.inj hr)
      rw [hm]; intro q; cases q
    | succ N =>
      obtain ⟨m1, h1, h2⟩ := runN_succ P N _ _ hr
      have e : stepG P true (G fr [cst]) w = (if fr.catches P then .ended (.unsupported (.noEntry "a panic or Goexit out of a method that fmt calls behind a cut's door") (fr.pos P)) w else .go (G (cst.raise ch) []) w) := by
        have : stepG P true (G fr [cst]) w = unwind P true fr [cst] none w := by
          unfold stepG G; simp only; rw [hm]
        rw [this]
        unfold unwind
        rw [hd, hm]
        rfl
      cases hc : fr.catches P with
      | true =>
        rw [hc] at e
        rw [show lone fr ([] ++ [cst]) w = lone fr [cst] w from rfl, step_of_ended (es := #[]) e] at h1
        cases h1
      | false =>
        rw [hc] at e
        rw [show lone fr ([] ++ [cst]) w = lone fr [cst] w from rfl, step_of_go (es := #[]) e] at h1
        cases h1
        cases N with
        | zero =>
          simp only [runN] at h2
          obtain ⟨_, q, _⟩ := lone_inj (Stepped.next.inj h2)
          cases q
        | succ N =>
          obtain ⟨m2, h3, _⟩ := runN_succ P N _ _ h2
          have e2 : ∃ o, stepG P true (G (cst.raise ch) []) w = .ended o w := ⟨_, rfl⟩
          obtain ⟨o, e2⟩ := e2
          rw [step_of_ended (es := #[]) e2] at h3
          cases h3
  | cons c l ih =>
    intro fr w hd ⟨ch, hm⟩ hl N fr' w' hr
    cases N with
    | zero =>
      simp only [runN] at hr
      obtain ⟨_, q, _⟩ := lone_inj (Stepped.next.inj hr)
      have := congrArg List.length q
      simp at this
    | succ N =>
      obtain ⟨m1, h1, h2⟩ := runN_succ P N _ _ hr
      have e : stepG P true (G fr (c :: (l ++ [cst]))) w = (if fr.catches P then .ended (.unsupported (.noEntry "a panic or Goexit out of a method that fmt calls behind a cut's door") (fr.pos P)) w else .go (G (c.raise ch) (l ++ [cst])) w) := by
        have : stepG P true (G fr (c :: (l ++ [cst]))) w = unwind P true fr (c :: (l ++ [cst])) none w := by
          unfold stepG G; simp only; rw [hm]
        rw [this]
        unfold unwind
        rw [hd, hm]
        rfl
      cases hc : fr.catches P with
      | true =>
        rw [hc] at e
        rw [List.cons_append, step_of_ended (es := #[]) e] at h1
        cases h1
      | false =>
        rw [hc] at e
        rw [List.cons_append, step_of_go (es := #[]) e] at h1
        cases h1
        refine ih (c.raise ch) w ?_ ?_ (fun x hx => hl x (List.mem_cons_of_mem _ hx)) N fr' w' h2
        · unfold Frame.raise; split <;> exact hl c (List.mem_cons_self ..)
        · unfold Frame.raise; split <;> exact ⟨_, rfl⟩
theorem frs_defers {ρ : Brel} : ∀ {l l' : List Frame}, FRs C Gl ρ l l' → ∀ c ∈ l, c.defers = []
  | [], _, _, c, hc => by cases hc
  | a :: l, b :: l', h, c, hc => by
    rcases List.mem_cons.1 hc with rfl | hc
    · obtain ⟨fn, t, t', k, m, rfl, _⟩ := h.1; rfl
    · exact frs_defers h.2 c hc
  | _ :: _, [], h, _, _ => h.elim
theorem StepR.inv {ρ : Brel} {W : World} {cs cs' : List Frame} {s s' : GStep} (h : StepR C Gl ρ W cs cs' s s') :
    (∃ o w1 es, s = .ended o w1 es) ∨ (∃ fr l w1 es, s = .go (G fr (l ++ cs)) w1 es ∧ fr.defers = [] ∧ (∃ ch, fr.mode = .panicking ch) ∧ ∀ c ∈ l, c.defers = []) ∨
    ∃ ρ' a b l l' w1 W1 es es', s = .go (G a (l ++ cs)) w1 es ∧ s' = .go (G b (l' ++ cs')) W1 es' ∧ FR C Gl ρ' a b ∧ FRs C Gl ρ' l l' ∧ WR C ρ' w1 W1 ∧ Did C ρ ρ' W W1 #[] es' := by
  cases h with
  | ended o w1 es => exact .inl ⟨o, w1, es, rfl⟩
  | panics fr l w1 es s hd hk hm hl =>
    obtain ⟨l', hl⟩ := hl
    exact .inr (.inl ⟨fr, l, w1, es, rfl, hd, hm, frs_defers hl⟩)
  | goes es h hl hw hd => exact .inr (.inr ⟨_, _, _, _, _, _, _, es, _, rfl, rfl, h, hl, hw, hd⟩)
structure LS where
  a : Frame
  l : List Frame
  w : World
structure Good (C : Ctx) (Gl : Nat → Prop) (ρ : Brel) (x : LS) : Prop where
  fr : FR C Gl ρ x.a x.a
  frs : FRs C Gl ρ x.l x.l
  wr : WR C ρ x.w x.w
  gl : ∀ g, Gl g → ρ g g
def Last (x : LS) : Prop := x.a.mode = .returning ∧ x.l = []
theorem WR.tp {ρ : Brel} {w W : World} (h : WR C ρ w W) (τ : Nat → Question → Nat) (d : Nat) : WR C ρ (World.tp w τ d) (World.tp W τ d) := ⟨h.one, h.obj, rfl, rfl, h.fz, h.fr, h.fro, h.low, h.gw, h.gW⟩
theorem step_self (hZ : Zeros C.P) (hB : Bodies C Gl) (hC : Codes C Gl) {ρ : Brel} {x : LS} (h : Good C Gl ρ x) (hn : ¬ Last x) (κ : Nat → Question → Nat) (e : Nat) :
    (∃ o w1 es, stepG C.P true (G x.a (x.l ++ [cst])) (World.tp x.w κ e) = .ended o w1 es) ∨
    (∃ fr l w1 es, stepG C.P true (G x.a (x.l ++ [cst])) (World.tp x.w κ e) = .go (G fr (l ++ [cst])) w1 es ∧ fr.defers = [] ∧ (∃ ch, fr.mode = .panicking ch) ∧ ∀ c ∈ l, c.defers = []) ∨
    ∃ ρ' y es, stepG C.P true (G x.a (x.l ++ [cst])) (World.tp x.w κ e) = .go (G y.a (y.l ++ [cst])) y.w es ∧ Good C Gl ρ' y ∧ Ext ρ ρ' := by
  have hs := step_alike (cs := [cst]) (cs' := [cst]) hZ hB hC true h.gl h.fr h.frs (h.wr.tp κ e) fun q z => hn ⟨q, z⟩
  rcases hs.inv with q | q | ⟨ρ', a, b, l, l', w1, W1, es, es', e1, e2, f1, f2, f3, d⟩
  · exact .inl q
  · exact .inr (.inl q)
  · rw [e1] at e2
    have q := GStep.go.inj e2
    have qa : a = b := congrArg Goroutine.frame q.1
    have ql : l ++ [cst] = l' ++ [cst] := congrArg Goroutine.callers q.1
    have ql := List.append_cancel_right ql
    have qw := q.2.1
    subst qa; subst ql; subst qw
    exact .inr (.inr ⟨ρ', ⟨a, l, w1⟩, es, e1, ⟨f1, f2, f3, fun g hg => d.ext _ _ (h.gl g hg)⟩, d.ext⟩)
def LS.M (x : LS) (T : Nat → Question → Nat) (D : Nat) : Machine := lone x.a (x.l ++ [cst]) (World.tp x.w T D)
def Reach (P : Program) (x0 : LS) (n D : Nat) (T : Nat → Question → Nat) (x : LS) : Prop :=
  ∀ T' : Nat → Question → Nat, (∀ j q, j < D → T' j q = T j q) → runN P n (x0.M T' 0) = .next (x.M T' D) ∧ ∀ i, i < n → ∃ y D', runN P i (x0.M T' 0) = .next (LS.M y T' D') ∧ ¬ Last y
theorem Reach.zero (P : Program) (x0 : LS) (T : Nat → Question → Nat) : Reach P x0 0 0 T x0 := fun _ _ => ⟨rfl, fun i hi => absurd hi (Nat.not_lt_zero i)⟩
def glue (T κ : Nat → Question → Nat) (D e : Nat) : Nat → Question → Nat := fun j q => if j < D then T j q else κ (e + (j - D)) q
theorem Reach.succ (hZ : Zeros C.P) (hB : Bodies C Gl) {x0 x y : LS} {n D e : Nat} {T κ : Nat → Question → Nat} {es : Array Event} {ρ : Brel} (hr : Reach C.P x0 n D T x) (hg : Good C Gl ρ x) (hn : ¬ Last x)
    (hs : stepG C.P true (G x.a (x.l ++ [cst])) (World.tp x.w κ e) = .go (G y.a (y.l ++ [cst])) y.w es) (hm : ∀ ch, y.a.mode ≠ .panicking ch) : Reach C.P x0 (n + 1) (D + (y.w.drawn - e)) (glue T κ D e) y := by
  intro T' hT
  obtain ⟨h1, h2⟩ := hr T' fun j q hj => by
    rw [hT j q (by omega)]; unfold glue; rw [if_pos hj]
  have sh := step_shift (l := x.l) (cs := [cst]) hZ hB hg.gl hg.fr (hg.wr.tp κ e) (fun q z => hn ⟨q, z⟩) _ _ _ hs
  rcases sh with ⟨ch, q⟩ | ⟨d1, d2, d3⟩
  · exact absurd q (hm ch)
  · have d1 : e ≤ y.w.drawn := d1
    have d4 := d3 T' D fun j q hj => by
      have hj : j < y.w.drawn - e := hj
      rw [hT (D + j) q (by omega)]
      unfold glue
      rw [if_neg (by omega)]
      show κ (e + (D + j - D)) q = κ (e + j) q
      rw [show D + j - D = j from by omega]
    have d5 : stepG C.P true (G x.a (x.l ++ [cst])) (World.tp x.w T' D) = .go (G y.a (y.l ++ [cst])) (World.tp y.w T' (D + (y.w.drawn - e))) es := d4
    refine ⟨?_, fun i hi => ?_⟩
    · rw [runN_snoc C.P n _ _ h1]
      exact step_of_go d5
    · by_cases q : i < n
      · exact h2 i q
      · have : i = n := by omega
        subst this
        exact ⟨x, D, h1, hn⟩
end run
end Go.Proofs.YtmbfdhekplnoaaaDoor
