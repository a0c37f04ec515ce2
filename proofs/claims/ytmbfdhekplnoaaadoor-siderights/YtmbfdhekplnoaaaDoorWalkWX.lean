/-
  A lone call that comes to its end on every tape does so wherever on the tape each of its steps is taken.
  A CALL'S CONTRACT IN COMPANY: what a lone call promises on every tape it keeps among other goroutines that leave its own blocks and the shared ones alone.
  A piece of code in company, to its ways out: the rules, over Walks.
-/
import Derived.Test.YtmbfdhekplnoaaaDoorAlikeRunX
import Derived.Conc.Company
namespace Go.Proofs.YtmbfdhekplnoaaaDoor
open Go Go.Conc

section ends
variable {C : Ctx} {Gl : Nat → Prop}
def Returns (P : Program) (x0 : LS) (Q : Ending → World → Prop) : Prop :=
  ∀ T : Nat → Question → Nat, ∃ v w' fr N, Q (.returned v) w' ∧ runN P N (x0.M T 0) = .next (lone fr [cst] w') ∧ fr.leaving P w' (.returned v) ∧ fr.fn = x0.a.fn
def start (P : Program) (f : FuncId) (args : Array Value) (w : World) : LS := ⟨Frame.enter P f args .normal, [], w⟩
theorem Returns.of_calls {P : Program} {f : FuncId} {args : Array Value} {w : World} {Q : Ending → World → Prop} (h : ∀ T, Calls P f args (World.tp w T 0) Q) (hQ : ∀ e w, Q e w → ∃ v, e = .returned v) : Returns P (start P f args w) Q := by
  intro T
  obtain ⟨e, w', fr, h1, h2, h3, h4⟩ := h T [cst]
  obtain ⟨v, rfl⟩ := hQ e w' h1
  obtain ⟨N, hN⟩ := h2
  exact ⟨v, w', fr, N, h1, hN, h4, h3⟩
def Nx (C : Ctx) (Gl : Nat → Prop) (y x : LS) : Prop := ¬ Last x ∧ ∃ κ e es, stepG C.P true (G x.a (x.l ++ [cst])) (World.tp x.w κ e) = .go (G y.a (y.l ++ [cst])) y.w es ∧ ∃ ρ, Good C Gl ρ y
theorem Good.mode {ρ : Brel} {x : LS} (h : Good C Gl ρ x) : ∀ ch, x.a.mode ≠ .panicking ch := by
  obtain ⟨fn, t, t', k, m, e, _, _, _, _, hm⟩ := h.fr
  intro ch q
  rw [e] at q
  have q : m = .panicking ch := q
  rcases hm with rfl | rfl <;> cases q
theorem append_cst {l : List Frame} (h : l ++ [cst] = [cst]) : l = [] := by
  have := congrArg List.length h
  simp at this
  exact this
theorem alive (hZ : Zeros C.P) (hB : Bodies C Gl) (hC : Codes C Gl) {x0 : LS} {Q : Ending → World → Prop} (hR : Returns C.P x0 Q) {n D : Nat} {T : Nat → Question → Nat} {x : LS} {ρ : Brel}
    (hr : Reach C.P x0 n D T x) (hg : Good C Gl ρ x) (hn : ¬ Last x) (κ : Nat → Question → Nat) (e : Nat) :
    ∃ ρ' y es, stepG C.P true (G x.a (x.l ++ [cst])) (World.tp x.w κ e) = .go (G y.a (y.l ++ [cst])) y.w es ∧ Good C Gl ρ' y ∧ Ext ρ ρ' := by
  obtain ⟨v, w', fr, N, hQ, hN, hl, _⟩ := hR (glue T κ D e)
  obtain ⟨h1, h2⟩ := hr (glue T κ D e) fun j q hj => by unfold glue; rw [if_pos hj]
  have hm : fr.mode = .returning := hl.1
  have last : ∀ y D', LS.M y (glue T κ D e) D' = lone fr [cst] w' → Last y := by
    intro y D' q
    obtain ⟨q1, q2, _⟩ := lone_inj q
    exact ⟨by rw [q1]; exact hm, append_cst q2⟩
  have h1 : runN C.P n (x0.M (glue T κ D e) 0) = .next (x.M (glue T κ D e) D) := h1
  rcases Nat.lt_trichotomy N n with q | q | q
  · obtain ⟨y, D', e1, e2⟩ := h2 N q
    have e1 : runN C.P N (x0.M (glue T κ D e) 0) = .next (LS.M y (glue T κ D e) D') := e1
    rw [hN] at e1
    exact absurd (last y D' (Stepped.next.inj e1).symm) e2
  · subst q
    rw [hN] at h1
    exact absurd (last x D (Stepped.next.inj h1).symm) hn
  · obtain ⟨k, rfl⟩ : ∃ k, N = n + (k + 1) := ⟨N - n - 1, by omega⟩
    rw [runN_add C.P n (k + 1) _ _ h1] at hN
    obtain ⟨m1, s1, s2⟩ := runN_succ C.P k _ _ hN
    rcases step_self hZ hB hC hg hn (glue T κ D e) D with ⟨o, w1, es, z⟩ | ⟨fr2, l2, w2, es, z, p1, p2, p3⟩ | ⟨ρ', y, es, z, p1, p2⟩
    · have := step_of_ended z
      rw [show x.M (glue T κ D e) D = lone x.a (x.l ++ [cst]) (World.tp x.w (glue T κ D e) D) from rfl, this] at s1
      cases s1
    · have := step_of_go z
      rw [show x.M (glue T κ D e) D = lone x.a (x.l ++ [cst]) (World.tp x.w (glue T κ D e) D) from rfl, this] at s1
      cases s1
      exact absurd hm (panic_end C.P l2 fr2 w2 p1 p2 p3 k fr w' s2)
    · have sh := step_shift (l := x.l) (cs := [cst]) hZ hB hg.gl hg.fr (hg.wr.tp (glue T κ D e) D) (fun q z => hn ⟨q, z⟩) _ _ _ z
      rcases sh with ⟨ch, q⟩ | ⟨d1, d2, d3⟩
      · exact absurd q (p1.mode ch)
      · have d4 := d3 κ e fun j q hj => by
          show κ (e + j) q = glue T κ D e (D + j) q
          unfold glue
          rw [if_neg (by omega), show D + j - D = j from by omega]
        exact ⟨ρ', ⟨y.a, y.l, World.tp y.w κ (e + (y.w.drawn - D))⟩, es, d4, ⟨p1.fr, p1.frs, p1.wr.tp _ _, p1.gl⟩, p2⟩
theorem ended {x0 : LS} {Q : Ending → World → Prop} (hR : Returns C.P x0 Q) {n D : Nat} {T : Nat → Question → Nat} {x : LS} {ρ : Brel}
    (hr : Reach C.P x0 n D T x) (hg : Good C Gl ρ x) (hn : Last x) : ∃ v, Q (.returned v) (World.tp x.w T D) ∧ x.a.leaving C.P (World.tp x.w T D) (.returned v) ∧ x.a.fn = x0.a.fn := by
  obtain ⟨v, w', fr, N, hQ, hN, hl, hfn⟩ := hR T
  obtain ⟨h1, h2⟩ := hr T fun j q hj => rfl
  have hm : fr.mode = .returning := hl.1
  have h1 : runN C.P n (x0.M T 0) = .next (x.M T D) := h1
  rcases Nat.lt_trichotomy N n with q | q | q
  · obtain ⟨y, D', e1, e2⟩ := h2 N q
    have e1 : runN C.P N (x0.M T 0) = .next (LS.M y T D') := e1
    rw [hN] at e1
    obtain ⟨q1, q2, _⟩ := lone_inj (Stepped.next.inj e1).symm
    exact absurd ⟨by rw [q1]; exact hm, append_cst q2⟩ e2
  · subst q
    rw [hN] at h1
    obtain ⟨q1, q2, q3⟩ := lone_inj (Stepped.next.inj h1)
    rw [← q3, ← q1]
    exact ⟨v, hQ, hl, hfn⟩
  · exfalso
    obtain ⟨k, rfl⟩ : ∃ k, N = n + (k + 1) := ⟨N - n - 1, by omega⟩
    rw [runN_add C.P n (k + 1) _ _ h1] at hN
    obtain ⟨m1, s1, s2⟩ := runN_succ C.P k _ _ hN
    obtain ⟨fn, t, t', kk, m, e, _, hfn, _, _, _⟩ := hg.fr
    obtain ⟨g, g1, gro⟩ := hfn
    have hmm : m = .returning := by have := hn.1; rw [e] at this; exact this
    subst hmm
    have ex : x.M T D = lone (Fr fn t kk .returning) [cst] (World.tp x.w T D) := by
      unfold LS.M; rw [e, hn.2]; rfl
    have es : ∀ (w : World), stepG C.P true (G (Fr fn t kk .returning) [cst]) w = (match (Go.results g t).runT C.P w #[] with
        | (r, es) => GStep.after (seen C.P fn es) (match r with
          | .ok v w => .go (G cst []) w
          | .halt (.stuck s) w => .ended (.stuck s ((Fr fn t kk .returning).pos C.P)) w
          | .halt _ w => .ended (.stuck "return: the result variables cannot be read" ((Fr fn t kk .returning).pos C.P)) w)) := by
      intro w
      have : stepG C.P true (G (Fr fn t kk .returning) [cst]) w = unwind C.P true (Fr fn t kk .returning) [cst] none w := rfl
      rw [this]
      unfold unwind
      simp only [Fr]
      rw [g1]
      rfl
    rw [ex] at s1
    have es1 := es (World.tp x.w T D)
    cases hrun : (Go.results g t).runT C.P (World.tp x.w T D) #[] with
    | mk res evs =>
      rw [hrun] at es1
      cases res with
      | halt q w2 =>
        have : ∃ o w3 es3, stepG C.P true (G (Fr fn t kk .returning) [cst]) (World.tp x.w T D) = .ended o w3 es3 := by
          rw [es1]; cases q <;> exact ⟨_, _, _, rfl⟩
        obtain ⟨o, w3, es3, z⟩ := this
        rw [step_of_ended z] at s1
        cases s1
      | ok v2 w2 =>
        have z : stepG C.P true (G (Fr fn t kk .returning) [cst]) (World.tp x.w T D) = .go (G cst []) w2 (seen C.P fn evs ++ #[]) := es1
        rw [step_of_go z] at s1
        cases s1
        cases k with
        | zero =>
          simp only [runN] at s2
          obtain ⟨_, q, _⟩ := lone_inj (Stepped.next.inj s2)
          cases q
        | succ k =>
          obtain ⟨m2, s3, _⟩ := runN_succ C.P k _ _ s2
          have : ∃ o, stepG C.P true (G cst []) w2 = .ended o w2 := ⟨_, rfl⟩
          obtain ⟨o, z2⟩ := this
          rw [step_of_ended (es := #[]) z2] at s3
          cases s3
structure Way (C : Ctx) (Gl : Nat → Prop) (x0 : LS) (n : Nat) where
  x : LS
  D : Nat
  T : Nat → Question → Nat
  reach : Reach C.P x0 n D T x
  good : ∃ ρ, Good C Gl ρ x
  far : ¬ Acc (Nx C Gl) x
theorem Way.next (hZ : Zeros C.P) (hB : Bodies C Gl) {x0 : LS} {n : Nat} (p : Way C Gl x0 n) : ∃ q : Way C Gl x0 (n + 1), ¬ Last p.x ∧ p.D ≤ q.D ∧ ∀ j z, j < p.D → q.T j z = p.T j z := by
  have : ∃ y, Nx C Gl y p.x ∧ ¬ Acc (Nx C Gl) y := Classical.byContradiction fun h => p.far (Acc.intro _ fun y hy => Classical.byContradiction fun k => h ⟨y, hy, k⟩)
  obtain ⟨y, ⟨hn, κ, e, es, hs, ρ', hg'⟩, hf⟩ := this
  obtain ⟨ρ, hg⟩ := p.good
  exact ⟨⟨y, p.D + (y.w.drawn - e), glue p.T κ p.D e, p.reach.succ hZ hB hg hn hs hg'.mode, ⟨ρ', hg'⟩, hf⟩, hn, Nat.le_add_right _ _, fun j z hj => by show glue p.T κ p.D e j z = _; unfold glue; rw [if_pos hj]⟩
noncomputable def Way.at (hZ : Zeros C.P) (hB : Bodies C Gl) {x0 : LS} (p : Way C Gl x0 0) : (n : Nat) → Way C Gl x0 n
  | 0 => p
  | n + 1 => Classical.choose (Way.next hZ hB (Way.at hZ hB p n))
theorem Way.at_succ (hZ : Zeros C.P) (hB : Bodies C Gl) {x0 : LS} (p : Way C Gl x0 0) (n : Nat) : ¬ Last (p.at hZ hB n).x ∧ (p.at hZ hB n).D ≤ (p.at hZ hB (n + 1)).D ∧ ∀ j z, j < (p.at hZ hB n).D → (p.at hZ hB (n + 1)).T j z = (p.at hZ hB n).T j z :=
  Classical.choose_spec (Way.next hZ hB (Way.at hZ hB p n))
theorem Way.mono (hZ : Zeros C.P) (hB : Bodies C Gl) {x0 : LS} (p : Way C Gl x0 0) (n : Nat) : ∀ k, (p.at hZ hB n).D ≤ (p.at hZ hB (n + k)).D ∧ ∀ j z, j < (p.at hZ hB n).D → (p.at hZ hB (n + k)).T j z = (p.at hZ hB n).T j z
  | 0 => ⟨Nat.le_refl _, fun _ _ _ => rfl⟩
  | k + 1 => by
    obtain ⟨h1, h2⟩ := Way.mono hZ hB p n k
    obtain ⟨_, g1, g2⟩ := Way.at_succ hZ hB p (n + k)
    exact ⟨Nat.le_trans h1 g1, fun j z hj => (g2 j z (Nat.lt_of_lt_of_le hj h1)).trans (h2 j z hj)⟩
theorem acc_start (hZ : Zeros C.P) (hB : Bodies C Gl) {x0 : LS} {Q : Ending → World → Prop} (hR : Returns C.P x0 Q) {ρ : Brel} (hg : Good C Gl ρ x0) : Acc (Nx C Gl) x0 := by
  refine Classical.byContradiction fun hf => ?_
  let p : Way C Gl x0 0 := ⟨_, 0, fun _ _ => 0, Reach.zero _ _ _, ⟨ρ, hg⟩, hf⟩
  -- the tape of all that is drawn
  let T : Nat → Question → Nat := fun j z => open Classical in if h : ∃ n, j < (p.at hZ hB n).D then (p.at hZ hB (Classical.choose h)).T j z else 0
  have hT : ∀ n j z, j < (p.at hZ hB n).D → T j z = (p.at hZ hB n).T j z := by
    intro n j z hj
    have h : ∃ n, j < (p.at hZ hB n).D := ⟨n, hj⟩
    have e : T j z = (p.at hZ hB (Classical.choose h)).T j z := dif_pos h
    have hc := Classical.choose_spec h
    rw [e]
    generalize Classical.choose h = m at hc
    rcases Nat.le_total m n with q | q
    · obtain ⟨k, rfl⟩ := Nat.exists_eq_add_of_le q
      exact ((Way.mono hZ hB p m k).2 j z hc).symm
    · obtain ⟨k, rfl⟩ := Nat.exists_eq_add_of_le q
      exact (Way.mono hZ hB p n k).2 j z hj
  obtain ⟨v, w', fr, N, hQ, hN, hl, _⟩ := hR T
  have h1 := ((p.at hZ hB N).reach T (hT N)).1
  have h1 : runN C.P N (x0.M T 0) = .next ((p.at hZ hB N).x.M T (p.at hZ hB N).D) := h1
  rw [hN] at h1
  obtain ⟨q1, q2, _⟩ := lone_inj (Stepped.next.inj h1).symm
  exact (Way.at_succ hZ hB p N).1 ⟨by rw [q1]; exact hl.1, append_cst q2⟩
end ends
end Go.Proofs.YtmbfdhekplnoaaaDoor

namespace Go.Proofs.YtmbfdhekplnoaaaDoor
open Go Go.Conc

structure Rely (Own Sh : Nat → Prop) (W W1 : World) : Prop where
  size : W.heap.size ≤ W1.heap.size
  keep : ∀ b, b < W.heap.size → Own b ∨ Sh b → W1.heap[b]? = W.heap[b]?
  tape : W1.tape = W.tape
  os : W1.os = W.os
  output : W1.output = W.output
theorem Rely.refl (Own Sh : Nat → Prop) (W : World) : Rely Own Sh W W := ⟨Nat.le_refl _, fun _ _ _ => rfl, rfl, rfl, rfl⟩
theorem Rely.trans {Own Sh : Nat → Prop} {W W1 W2 : World} (h : Rely Own Sh W W1) (k : Rely Own Sh W1 W2) : Rely Own Sh W W2 :=
  ⟨Nat.le_trans h.size k.size, fun b hb ho => (k.keep b (Nat.lt_of_lt_of_le hb h.size) ho).trans (h.keep b hb ho), k.tape.trans h.tape, k.os.trans h.os, k.output.trans h.output⟩
def EvG (Own Sh : Nat → Prop) (e : Event) : Prop :=
  match e.loc with
  | .cell a => e.sync = false ∧ (Own a.block ∨ (Sh a.block ∧ e.write = false))
  | .obj r => e.sync = false ∧ (Own r ∨ (Sh r ∧ e.write = false))
  | .mark .noRoom => True
  | .mark (.extern _) => True
  | _ => False
structure Guar (Own Own' Sh : Nat → Prop) (W W' : World) (es : Array Event) : Prop where
  size : W.heap.size ≤ W'.heap.size
  keep : ∀ b, b < W.heap.size → ¬ Own b → W'.heap[b]? = W.heap[b]?
  old : ∀ b, Own b → Own' b
  new : ∀ b, Own' b → Own b ∨ (W.heap.size ≤ b ∧ b < W'.heap.size)
  all : ∀ b, W.heap.size ≤ b → b < W'.heap.size → Own' b
  os : W'.os = W.os
  output : W'.output = W.output
  tape : W'.tape = W.tape
  evs : ∀ e ∈ es, EvG Own' Sh e
inductive Walks (P : Program) (main : Bool) (Sh : Nat → Prop) (Stop : (Nat → Prop) → Goroutine → World → Prop) : (Nat → Prop) → Goroutine → World → Prop
  | stop {Own : Nat → Prop} {g : Goroutine} {W : World} (h : ∀ W1, Rely Own Sh W W1 → Stop Own g W1) : Walks P main Sh Stop Own g W
  | step {Own : Nat → Prop} {g : Goroutine} {W : World} (hs : g.status = .running) (Own' : World → Nat → Prop) (g' : World → Goroutine) (W' : World → World) (es : World → Array Event)
      (h1 : ∀ W1, Rely Own Sh W W1 → stepG P main g W1 = .go (g' W1) (W' W1) (es W1) ∧ Guar Own (Own' W1) Sh W1 (W' W1) (es W1))
      (h2 : ∀ W1, Rely Own Sh W W1 → Walks P main Sh Stop (Own' W1) (g' W1) (W' W1)) : Walks P main Sh Stop Own g W
theorem Walks.step' {P : Program} {main : Bool} {Sh : Nat → Prop} {Stop : (Nat → Prop) → Goroutine → World → Prop} {Own : Nat → Prop} {g : Goroutine} {W : World} (hs : g.status = .running)
    (h : ∀ W1, Rely Own Sh W W1 → ∃ Own' g' W' es, stepG P main g W1 = .go g' W' es ∧ Guar Own Own' Sh W1 W' es ∧ Walks P main Sh Stop Own' g' W') : Walks P main Sh Stop Own g W := by
  have h' : ∀ W1, ∃ Own' g' W' es, Rely Own Sh W W1 → stepG P main g W1 = .go g' W' es ∧ Guar Own Own' Sh W1 W' es ∧ Walks P main Sh Stop Own' g' W' := fun W1 => by
    by_cases hr : Rely Own Sh W W1
    · obtain ⟨a, b, c, d, q⟩ := h W1 hr
      exact ⟨a, b, c, d, fun _ => q⟩
    · exact ⟨Own, g, W1, #[], fun q => absurd q hr⟩
  exact .step hs (fun W1 => Classical.choose (h' W1)) (fun W1 => Classical.choose (Classical.choose_spec (h' W1))) (fun W1 => Classical.choose (Classical.choose_spec (Classical.choose_spec (h' W1))))
    (fun W1 => Classical.choose (Classical.choose_spec (Classical.choose_spec (Classical.choose_spec (h' W1)))))
    (fun W1 hr => let q := Classical.choose_spec (Classical.choose_spec (Classical.choose_spec (Classical.choose_spec (h' W1)))) hr; ⟨q.1, q.2.1⟩)
    (fun W1 hr => (Classical.choose_spec (Classical.choose_spec (Classical.choose_spec (Classical.choose_spec (h' W1)))) hr).2.2)
theorem Walks.rely {P : Program} {main : Bool} {Sh : Nat → Prop} {Stop : (Nat → Prop) → Goroutine → World → Prop} {Own : Nat → Prop} {g : Goroutine} {W W1 : World} (h : Walks P main Sh Stop Own g W) (hr : Rely Own Sh W W1) : Walks P main Sh Stop Own g W1 := by
  cases h with
  | stop h => exact .stop fun W2 h2 => h W2 (hr.trans h2)
  | step hs Own' g' W' es h1 h2 => exact .step hs Own' g' W' es (fun W2 q => h1 W2 (hr.trans q)) fun W2 q => h2 W2 (hr.trans q)

structure Job (ι : Type) where
  P : Program
  Fn : FnR
  G : Nat
  hG : P.globals.size < G
  Fz : ι → Nat → Prop
  rof : ∀ i a, Fn.ro a → Fz i a ∧ G ≤ a
  IA : FuncId → Nat → Bool
  fzn : Nat → Nat
  Gl : Nat → Prop
  S : Nat → Prop
  /-- where it begins -/
  a : Frame
  w : ι → World
  Q : ι → Ending → World → Prop
  hZ : Zeros P
  gls : ∀ g, Gl g → S g
def Job.C {ι : Type} (K : Job ι) (i : ι) : Ctx := ⟨K.P, K.Fn, K.Fz i, K.G, K.hG, K.rof i, K.IA, K.fzn, false⟩
def Job.D {ι : Type} (K : Job ι) (i : ι) : Ctx := ⟨K.P, K.Fn, K.Fz i, K.G, K.hG, K.rof i, K.IA, K.fzn, true⟩
structure Job.Known {ι : Type} (K : Job ι) : Prop where
  hB : ∀ i, Bodies (K.C i) K.Gl
  hC : ∀ i, Codes (K.C i) K.Gl
  hB' : ∀ i, Bodies (K.D i) K.Gl
  hC' : ∀ i, Codes (K.D i) K.Gl
  hR : ∀ i, Returns K.P ⟨K.a, [], K.w i⟩ (K.Q i)
  cover : ∀ s, K.S s → ∃ i, K.Fz i s
structure Twin {ι : Type} (K : Job ι) (i : ι) (Own : Nat → Prop) (x : LS) (ρ : Brel) (b : Frame) (l : List Frame) (W : World) : Prop where
  reach : ∃ n D T, Reach K.P ⟨K.a, [], K.w i⟩ n D T x
  good : ∃ σ, Good (K.D i) K.Gl σ x
  fr : FR (K.C i) K.Gl ρ x.a b
  frs : FRs (K.C i) K.Gl ρ x.l l
  wr : WR (K.C i) ρ (World.tp x.w W.tape W.drawn) W
  sh : ∀ s, K.S s → ρ s s
  img : ∀ a c, ρ a c → Own c ∨ (a = c ∧ K.S c)
section twin
variable {ι : Type} {K : Job ι} {i : ι} {Own : Nat → Prop} {x : LS} {ρ : Brel} {b : Frame} {l : List Frame} {W : World}
theorem Twin.rely (h : Twin K i Own x ρ b l W) {W1 : World} (hr : Rely Own K.S W W1) : Twin K i Own x ρ b l W1 := by
  refine { h with wr := ?_ }
  have hw := h.wr
  refine ⟨hw.one, fun {a c} r => ?_, rfl, rfl, hw.fz, hw.fr, fun {a c} r ha d e g q => hw.fro r ha d e g ?_, hw.low, hw.gw, Nat.le_trans hw.gW hr.size⟩
  rotate_left
  · rw [hr.keep c (hw.lt r).2 ((h.img a c r).imp id fun q => q.2)] at q
    exact q
  obtain ⟨o, o', h1, h2, h3⟩ := hw.obj r
  have lt := (Array.getElem?_eq_some_iff.1 h2).1
  refine ⟨o, o', h1, ?_, h3⟩
  rw [hr.keep c lt ((h.img a c r).imp id fun q => q.2)]
  exact h2
theorem Twin.gl (h : Twin K i Own x ρ b l W) : ∀ g, K.Gl g → ρ g g := fun g hg => h.sh g (K.gls g hg)
theorem Twin.mode (h : Twin K i Own x ρ b l W) : b.mode = x.a.mode := by
  obtain ⟨fn, t, t', k, m, h1, h2, _⟩ := h.fr
  rw [h1, h2]; rfl
theorem frs_len {C : Ctx} {Gl : Nat → Prop} : ∀ {l l' : List Frame}, FRs C Gl ρ l l' → (l = [] ↔ l' = [])
  | [], [], _ => Iff.rfl
  | _ :: _, _ :: _, _ => ⟨fun q => (by cases q), fun q => (by cases q)⟩
  | [], _ :: _, h => h.elim
  | _ :: _, [], h => h.elim
theorem Twin.last (h : Twin K i Own x ρ b l W) : Last x ↔ (b.mode = .returning ∧ l = []) := by
  unfold Last
  rw [h.mode, frs_len h.frs]
theorem guar_of (hK : K.Known) {W' : World} {es : Array Event} (i0 : ι) (hS : ∀ s, K.S s → s < W.heap.size)
    (h : ∀ i, ∃ ρ ρ', (∀ s, K.S s → ρ s s) ∧ (∀ a c, ρ a c → Own c ∨ (a = c ∧ K.S c)) ∧ (∀ a c, ρ' a c → c < W'.heap.size) ∧ Did (K.C i) ρ ρ' W W' #[] es) (ht : W'.tape = W.tape) :
    Guar Own (fun c => Own c ∨ (W.heap.size ≤ c ∧ c < W'.heap.size)) K.S W W' es := by
  obtain ⟨ρ0, ρ0', s0, m0, l0, d0⟩ := h i0
  have cov : ∀ c, K.S c → ¬ Own c → ∃ i ρ ρ', K.Fz i c ∧ (∀ a, ρ a c → a = c) ∧ Did (K.C i) ρ ρ' W W' #[] es := by
    intro c hc ho
    obtain ⟨i, hi⟩ := hK.cover c hc
    obtain ⟨ρ, ρ', _, m, _, d⟩ := h i
    exact ⟨i, ρ, ρ', hi, fun a r => ((m a c r).resolve_left ho).1, d⟩
  have rd : ∀ (c : Nat), (∃ a, ρ0' a c) → (Own c ∨ (W.heap.size ≤ c ∧ c < W'.heap.size)) ∨ (K.S c ∧ ¬ Own c ∧ c < W.heap.size) := by
    rintro c ⟨a, r⟩
    rcases d0.new a c r with r | r
    · rcases m0 a c r with o | ⟨_, o⟩
      · exact .inl (.inl o)
      · by_cases q : Own c
        · exact .inl (.inl q)
        · exact .inr ⟨o, q, hS c o⟩
    · exact .inl (.inr ⟨r, l0 a c (by assumption)⟩)
  refine ⟨d0.size, fun c hc ho => ?_, fun c q => .inl q, fun c q => q, fun c h1 h2 => .inr ⟨h1, h2⟩, d0.os, d0.output, ht, fun e he => ?_⟩
  · by_cases hs : K.S c
    · obtain ⟨i, ρ, ρ', hi, hu, d⟩ := cov c hs ho
      exact d.far c hc fun a r => by rw [hu a r]; exact hi
    · exact d0.far c hc fun a r => by
        rcases m0 a c r with q | ⟨_, q⟩
        · exact absurd q ho
        · exact absurd q hs
  · obtain ⟨m, em, hm⟩ := d0.evs
    have e0 := hm e (by rw [em] at he; simpa using he)
    unfold EvOk at e0
    unfold EvG
    split at e0
    · rename_i c hc
      rw [hc]
      obtain ⟨q1, a, r, q2⟩ := e0
      refine ⟨q1, ?_⟩
      rcases rd c.block ⟨a, r⟩ with z | ⟨z1, z2, z3⟩
      · exact .inl z
      · refine .inr ⟨z1, ?_⟩
        obtain ⟨i, ρ, ρ', hi, hu, d⟩ := cov c.block z1 z2
        obtain ⟨m2, em2, hm2⟩ := d.evs
        have e1 := hm2 e (by rw [em2] at he; simpa using he)
        unfold EvOk at e1
        rw [hc] at e1
        obtain ⟨_, a2, r2, q3⟩ := e1
        have : a2 = c.block := by
          rcases d.new a2 c.block r2 with r3 | r3
          · exact hu a2 r3
          · omega
        subst this
        cases hwr : e.write with
        | false => rfl
        | true => exact absurd hi (q3 hwr)
    · rename_i c hc
      rw [hc]
      obtain ⟨q1, a, r, q2⟩ := e0
      refine ⟨q1, ?_⟩
      rcases rd c ⟨a, r⟩ with z | ⟨z1, z2, z3⟩
      · exact .inl z
      · refine .inr ⟨z1, ?_⟩
        obtain ⟨i, ρ, ρ', hi, hu, d⟩ := cov c z1 z2
        obtain ⟨m2, em2, hm2⟩ := d.evs
        have e1 := hm2 e (by rw [em2] at he; simpa using he)
        unfold EvOk at e1
        rw [hc] at e1
        obtain ⟨_, a2, r2, q3⟩ := e1
        have : a2 = c := by
          rcases d.new a2 c r2 with r3 | r3
          · exact hu a2 r3
          · omega
        subst this
        cases hwr : e.write with
        | false => rfl
        | true => exact absurd hi (q3 hwr)
    · rename_i hc; rw [hc]; trivial
    · rename_i hc; rw [hc]; trivial
    · exact e0.elim
theorem app_cst {l m : List Frame} (h : l ++ [cst] = m ++ [cst]) : l = m := List.append_cancel_right h
theorem Twin.step (hK : K.Known) (h : Twin K i Own x ρ b l W) (hn : ¬ Last x) (main : Bool) (cs' : List Frame) :
    ∃ y ρ' b' l' W' es, stepG K.P main (G b (l ++ cs')) W = .go (G b' (l' ++ cs')) W' es ∧ Nx (K.D i) K.Gl y x ∧ Did (K.C i) ρ ρ' W W' #[] es ∧ (∀ a c, ρ' a c → c < W'.heap.size) ∧ W'.tape = W.tape ∧
      Twin K i (fun c => Own c ∨ (W.heap.size ≤ c ∧ c < W'.heap.size)) y ρ' b' l' W' := by
  obtain ⟨n, D, T, hr⟩ := h.reach
  obtain ⟨σ, hg⟩ := h.good
  obtain ⟨σ', y, es0, hs, hg', _⟩ := alive (C := K.D i) K.hZ (hK.hB' i) (hK.hC' i) (hK.hR i) hr hg hn W.tape W.drawn
  have st := step_alike (C := K.C i) (cs := [cst]) (cs' := cs') K.hZ (hK.hB i) (hK.hC i) main h.gl h.fr h.frs h.wr fun q z => hn ⟨q, z⟩
  have hs' : stepG (K.C i).P true (G x.a (x.l ++ [cst])) (World.tp x.w W.tape W.drawn) = .go (G y.a (y.l ++ [cst])) y.w es0 := hs
  rcases st.inv with ⟨o, w1, es, e⟩ | ⟨fr, l2, w1, es, e, _, ⟨ch, hp⟩, _⟩ | ⟨ρ', a, b', l2, l', w1, W1, es, es', e1, e2, f1, f2, f3, d⟩
  · rw [hs'] at e; cases e
  · rw [hs'] at e
    have q := (GStep.go.inj e).1
    have qa : y.a = fr := congrArg Goroutine.frame q
    exact absurd (qa ▸ hp) (hg'.mode ch)
  · rw [hs'] at e1
    obtain ⟨q1, q2, q3⟩ := GStep.go.inj e1
    have qa : y.a = a := congrArg Goroutine.frame q1
    have ql : y.l = l2 := app_cst (congrArg Goroutine.callers q1)
    subst qa; subst ql; subst q2
    have t1 : W1.tape = W.tape := by
      have z1 : W1.tape = y.w.tape := f3.tape
      have sh := step_shift (C := K.D i) (l := x.l) (cs := [cst]) K.hZ (hK.hB' i) hg.gl hg.fr (hg.wr.tp W.tape W.drawn) (fun q z => hn ⟨q, z⟩) _ _ _ hs
      rcases sh with ⟨ch, q⟩ | ⟨_, d2, _⟩
      · exact absurd q (hg'.mode ch)
      · rw [z1, d2]; rfl
    refine ⟨y, ρ', b', l', W1, es', e2, ⟨hn, W.tape, W.drawn, es0, hs, σ', hg'⟩, d, fun a c r => (f3.lt r).2, t1, ?_⟩
    refine ⟨⟨n + 1, _, _, Reach.succ (C := K.D i) K.hZ (hK.hB' i) hr hg hn hs hg'.mode⟩, ⟨σ', hg'⟩, f1, f2, ?_, fun s hs => d.ext _ _ (h.sh s hs), fun a c r => ?_⟩
    · rw [f3.tape, f3.drawn]
      exact f3
    · rcases d.new a c r with q | q
      · rcases h.img a c q with o | o
        · exact .inl (.inl o)
        · exact .inr o
      · exact .inl (.inr ⟨q, (f3.lt r).2⟩)
def Done (K : Job ι) (i : ι) (Own : Nat → Prop) (v' : Value) (W : World) : Prop :=
  ∃ v w T D, ∃ ρ : Brel, K.Q i (.returned v) (World.tp w T D) ∧ VR K.Fn ρ v v' ∧ WR (K.C i) ρ (World.tp w W.tape W.drawn) W ∧ (∀ s, K.S s → ρ s s) ∧ ∀ a c, ρ a c → Own c ∨ (a = c ∧ K.S c)
theorem Twin.end (hK : K.Known) (h : Twin K i Own x ρ b l W) (hn : Last x) (main : Bool) (c : Frame) (cs' : List Frame) :
    ∃ v' ρ' W' es, stepG K.P main (G b (l ++ c :: cs')) W = .go (G (c.finish v') cs') W' es ∧ Did (K.C i) ρ ρ' W W' #[] es ∧ (∀ a c, ρ' a c → c < W'.heap.size) ∧ W'.tape = W.tape ∧
      (∃ g es0, K.P.funcs[b.fn]? = some g ∧ (Go.results g b.tmps).runT K.P W #[] = (.ok v' W', es0)) ∧ Done K i (fun c => Own c ∨ (W.heap.size ≤ c ∧ c < W'.heap.size)) v' W' := by
  obtain ⟨n, D, T, hr⟩ := h.reach
  obtain ⟨σ, hg⟩ := h.good
  obtain ⟨v, hQ, hl, _⟩ := ended (C := K.D i) (hK.hR i) hr hg hn
  obtain ⟨_, hm⟩ := (h.last).1 hn
  subst hm
  obtain ⟨fn, t, t', k, m, e1, e2, hfn, ht, _, _⟩ := h.fr
  have hmm : m = .returning := by have := hn.1; rw [e1] at this; exact this
  subst hmm
  subst e2
  obtain ⟨g, g1, gro⟩ := hfn
  obtain ⟨_, _, _, fn2, h5, h6⟩ := hl
  have efn : fn2 = g := by
    have : x.a.fn = fn := by rw [e1]; rfl
    rw [this] at h5
    exact Option.some.inj (h5.symm.trans g1)
  subst efn
  have etm : x.a.tmps = t := by rw [e1]; rfl
  rw [etm] at h6
  -- the answer, wherever on the tape it is read
  have run0 : (Go.results fn2 t).runT K.P (World.tp x.w T D) #[] = (.ok v (World.tp x.w T D), (Go.results fn2 t).events K.P (World.tp x.w T D) #[]) := by
    have h7 : (Go.results fn2 t).run K.P (World.tp x.w T D) = .ok v (World.tp x.w T D) := h6
    rw [Sem.runT_eq, h7]
  have self : VPs K.Fn σ (K.IA fn) t t := by
    obtain ⟨fn', s, s', k', m', q1, q2, _, q3, _⟩ := hg.fr
    have zf : fn = fn' := by have := congrArg Frame.fn (e1.symm.trans q1); exact this
    subst zf
    have z1 : t = s := by have := congrArg Frame.tmps (e1.symm.trans q1); exact this
    have z2 : t = s' := by have := congrArg Frame.tmps (e1.symm.trans q2); exact this
    rw [← z1, ← z2] at q3
    exact q3
  have hS0 := (Sim.results (C := K.D i) (fn := fn2) gro self (World.tp x.w T D) (World.tp x.w T D) (hg.wr.tp T D)).2 #[] #[] _ _ _ run0
  obtain ⟨_, v2, W2, es2, r2, _, _, d2⟩ := hS0
  have r2' : (Go.results fn2 t).runT K.P (World.tp x.w T D) #[] = (.ok v2 W2, es2) := r2
  rw [run0] at r2'
  have ev : es2 = (Go.results fn2 t).events K.P (World.tp x.w T D) #[] := (congrArg Prod.snd r2').symm
  have sh := shifts K.P (Go.results fn2 t) (World.tp x.w T D) #[] v _ _ run0 (by rw [← ev]; exact no_output d2)
  have run1 := sh.2.2 W.tape W.drawn fun j q hj => absurd hj (by show ¬ j < D - D; omega)
  have run1 : (Go.results fn2 t).runT K.P (World.tp x.w W.tape W.drawn) #[] = (.ok v (World.tp x.w W.tape W.drawn), (Go.results fn2 t).events K.P (World.tp x.w T D) #[]) := by
    have z : (World.tp (World.tp x.w T D) W.tape (W.drawn + ((World.tp x.w T D).drawn - (World.tp x.w T D).drawn))) = World.tp x.w W.tape W.drawn := by
      rw [Nat.sub_self, Nat.add_zero]; rfl
    rw [z] at run1
    exact run1
  obtain ⟨ρ', v', W', es', r3, hv, hw', d⟩ := (Sim.results (C := K.C i) (fn := fn2) gro ht _ W h.wr).2 #[] #[] _ _ _ run1
  have st : stepG K.P main (G (Fr fn t' k .returning) (c :: cs')) W = .go (G (c.finish v') cs') W' (seen K.P fn es' ++ #[]) := by
    have : stepG K.P main (G (Fr fn t' k .returning) (c :: cs')) W = unwind K.P main (Fr fn t' k .returning) (c :: cs') none W := rfl
    rw [this]
    unfold unwind
    simp only [Fr]
    have g1' : K.P.funcs[fn]? = some fn2 := g1
    have r3' : (Go.results fn2 t').runT K.P W #[] = (.ok v' W', es') := r3
    rw [g1']
    simp only
    rw [r3']
    rfl
  have t1 : W'.tape = W.tape := hw'.tape
  refine ⟨v', ρ', W', seen K.P fn es' ++ #[], st, did_seen (C := K.C i) fn d, fun a c r => (hw'.lt r).2, t1, ⟨fn2, es', g1, r3⟩, v, x.w, T, D, ρ', hQ, hv, ?_, fun s hs => d.ext _ _ (h.sh s hs), fun a c r => ?_⟩
  · have z : W'.drawn = W.drawn := hw'.drawn
    rw [t1, z]
    exact hw'
  · rcases d.new a c r with q | q
    · rcases h.img a c q with o | o
      · exact .inl (.inl o)
      · exact .inr o
    · exact .inl (.inr ⟨q, (hw'.lt r).2⟩)
theorem walks_from (hK : K.Known) (i0 : ι) (main : Bool) (c : Frame) (cs' : List Frame) (Stop : (Nat → Prop) → Goroutine → World → Prop)
    (hpost : ∀ Own v' W, (∀ b, Own b → b < W.heap.size) → (∀ i, Done K i Own v' W) → Walks K.P main K.S Stop Own (G (c.finish v') cs') W) :
    ∀ x, Acc (Nx (K.D i0) K.Gl) x → ∀ (Own : Nat → Prop) (b : Frame) (l : List Frame) (W : World), (∃ ρ, Twin K i0 Own x ρ b l W) → (∀ i, ∃ y ρ, Twin K i Own y ρ b l W) → (∀ b, Own b → b < W.heap.size) → (∀ s, K.S s → s < W.heap.size) →
      Walks K.P main K.S Stop Own (G b (l ++ c :: cs')) W := by
  intro x hx
  induction hx with
  | intro x _ ih =>
    intro Own b l W ⟨ρ0, h0⟩ hall hO hS
    refine Walks.step' rfl fun W1 hr => ?_
    have hO1 : ∀ b, Own b → b < W1.heap.size := fun b q => Nat.lt_of_lt_of_le (hO b q) hr.size
    have hS1 : ∀ s, K.S s → s < W1.heap.size := fun s q => Nat.lt_of_lt_of_le (hS s q) hr.size
    have h1 := h0.rely hr
    have hall1 : ∀ i, ∃ y ρ, Twin K i Own y ρ b l W1 := fun i => by
      obtain ⟨y, ρ, q⟩ := hall i
      exact ⟨y, ρ, q.rely hr⟩
    by_cases hn : Last x
    · obtain ⟨v', ρ', W', es, st, d, lt, tp, ⟨g0, ev0, gf, gr⟩, dn⟩ := h1.end hK hn main c cs'
      have each : ∀ i, ∃ ρ ρ', (∀ s, K.S s → ρ s s) ∧ (∀ a c, ρ a c → Own c ∨ (a = c ∧ K.S c)) ∧ (∀ a c, ρ' a c → c < W'.heap.size) ∧ Did (K.C i) ρ ρ' W1 W' #[] es ∧ Done K i (fun c => Own c ∨ (W1.heap.size ≤ c ∧ c < W'.heap.size)) v' W' := by
        intro i
        obtain ⟨y, ρ, q⟩ := hall1 i
        have hy : Last y := q.last.2 (h1.last.1 hn)
        obtain ⟨v2, ρ2, W2, es2, st2, d2, lt2, tp2, ⟨g2, ev2, gf2, gr2⟩, dn2⟩ := q.end hK hy main c cs'
        rw [st] at st2
        obtain ⟨z1, z2, z3⟩ := GStep.go.inj st2
        subst z2; subst z3
        refine ⟨ρ, ρ2, q.sh, q.img, lt2, d2, ?_⟩
        rw [gf] at gf2
        cases gf2
        rw [gr] at gr2
        have zv : v' = v2 := (Result.ok.inj (Prod.mk.inj gr2).1).1
        rw [zv]
        exact dn2
      have gu := guar_of hK i0 hS1 (fun i => by obtain ⟨ρ, ρ', a1, a2, a3, a4, _⟩ := each i; exact ⟨ρ, ρ', a1, a2, a3, a4⟩) tp
      refine ⟨_, _, W', es, st, gu, hpost _ v' W' (fun b q => ?_) fun i => ?_⟩
      · rcases q with q | q
        · exact Nat.lt_of_lt_of_le (hO1 b q) gu.size
        · exact q.2
      · obtain ⟨_, _, _, _, _, _, q⟩ := each i
        exact q
    · obtain ⟨y, ρ', b', l', W', es, st, nx, d, lt, tp, tw⟩ := h1.step hK hn main (c :: cs')
      have each : ∀ i, ∃ ρ ρ' y', (∀ s, K.S s → ρ s s) ∧ (∀ a c, ρ a c → Own c ∨ (a = c ∧ K.S c)) ∧ (∀ a c, ρ' a c → c < W'.heap.size) ∧ Did (K.C i) ρ ρ' W1 W' #[] es ∧ Twin K i (fun c => Own c ∨ (W1.heap.size ≤ c ∧ c < W'.heap.size)) y' ρ' b' l' W' := by
        intro i
        obtain ⟨z, ρ, q⟩ := hall1 i
        have hz : ¬ Last z := fun k => hn (h1.last.2 (q.last.1 k))
        obtain ⟨y2, ρ2, b2, l2, W2, es2, st2, _, d2, lt2, tp2, tw2⟩ := q.step hK hz main (c :: cs')
        rw [st] at st2
        obtain ⟨z1, z2, z3⟩ := GStep.go.inj st2
        subst z2; subst z3
        have zb : b' = b2 := congrArg Goroutine.frame z1
        have zl : l' = l2 := List.append_cancel_right (congrArg Goroutine.callers z1 : l' ++ c :: cs' = l2 ++ c :: cs')
        subst zb; subst zl
        exact ⟨ρ, ρ2, y2, q.sh, q.img, lt2, d2, tw2⟩
      have gu := guar_of hK i0 hS1 (fun i => by obtain ⟨ρ, ρ', _, a1, a2, a3, a4, _⟩ := each i; exact ⟨ρ, ρ', a1, a2, a3, a4⟩) tp
      refine ⟨_, _, W', es, st, gu, ih y nx _ b' l' W' ⟨ρ', tw⟩ (fun i => ?_) (fun b q => ?_) fun s q => Nat.lt_of_lt_of_le (hS1 s q) gu.size⟩
      · obtain ⟨_, ρ2, y2, _, _, _, _, q⟩ := each i
        exact ⟨y2, ρ2, q⟩
      · rcases q with q | q
        · exact Nat.lt_of_lt_of_le (hO1 b q) gu.size
        · exact q.2
def IdS (S : Nat → Prop) : Brel := fun a b => a = b ∧ S a
theorem enter_fr {C : Ctx} {Gl : Nat → Prop} {σ : Brel} (hB : Bodies C Gl) (hC : Codes C Gl) {f : FuncId} (hf : C.Fn f) {xs ys : Array Value} (h : VRs C.Fn σ xs ys) : FR C Gl σ (Frame.enter C.P f xs .normal) (Frame.enter C.P f ys .normal) := by
  refine ⟨f, xs ++ Array.replicate (((C.P.funcs[f]?).map (·.ntmps)).getD 0 - xs.size) undef, ys ++ Array.replicate (((C.P.funcs[f]?).map (·.ntmps)).getD 0 - ys.size) undef, [.code (((C.P.funcs[f]?).bind (·.body)).getD (.refuse "unsupported: a function without a Go body is entered"))], .run, rfl, rfl, let ⟨g, h, hr, _⟩ := hB.fn f hf; ⟨g, h, hr⟩, ?_, fun j hj => ?_, .inl rfl⟩
  · rw [← h.1]
    exact VPs.of (h.append (VRs.replicate VR.undef _))
  · rw [List.mem_singleton.1 hj]
    show okCode C Gl (C.IA f) _
    cases hfn : C.P.funcs[f]? with
    | none => exact trivial
    | some g =>
      cases hbd : g.body with
      | none => simp only [Option.bind_some, hbd]; exact trivial
      | some b => simp only [Option.bind_some, hbd]; exact hC f g hf hfn b hbd
theorem walks_any (hK : K.Known) (i0 : ι) (main : Bool) (c : Frame) (cs' : List Frame) (Stop : (Nat → Prop) → Goroutine → World → Prop) {W : World} {b : Frame}
    (ha : ∀ i, FR (K.C i) K.Gl (IdS K.S) K.a b) (hs : ∀ i, FR (K.D i) K.Gl (IdS K.S) K.a K.a) (hw : ∀ i, WR (K.C i) (IdS K.S) (World.tp (K.w i) W.tape W.drawn) W) (hv : ∀ i, WR (K.D i) (IdS K.S) (K.w i) (K.w i))
    (hpost : ∀ Own v' W, (∀ b, Own b → b < W.heap.size) → (∀ i, Done K i Own v' W) → Walks K.P main K.S Stop Own (G (c.finish v') cs') W) :
    Walks K.P main K.S Stop (fun _ => False) (G b (c :: cs')) W := by
  have hg : ∀ g, K.Gl g → IdS K.S g g := fun g q => ⟨rfl, K.gls g q⟩
  have good : ∀ i, Good (K.D i) K.Gl (IdS K.S) ⟨K.a, [], K.w i⟩ := fun i => ⟨hs i, trivial, hv i, hg⟩
  have tw : ∀ i, Twin K i (fun _ => False) ⟨K.a, [], K.w i⟩ (IdS K.S) b [] W := fun i =>
    ⟨⟨0, 0, fun _ _ => 0, Reach.zero _ _ _⟩, ⟨_, good i⟩, ha i, trivial, hw i, fun s q => ⟨rfl, q⟩, fun a c r => .inr ⟨r.1, r.1 ▸ r.2⟩⟩
  exact walks_from hK i0 main c cs' Stop hpost _ (acc_start (C := K.D i0) K.hZ (hK.hB' i0) (hK.hR i0) (good i0)) (fun _ => False) _ [] W ⟨_, tw i0⟩ (fun i => ⟨_, _, tw i⟩) (fun _ q => q.elim) fun s q => ((hw i0).lt (a := s) (b := s) ⟨rfl, q⟩).2
end twin
end Go.Proofs.YtmbfdhekplnoaaaDoor

namespace Go.Proofs.YtmbfdhekplnoaaaDoor
open Go Go.Conc

theorem Guar.refl (Own Sh : Nat → Prop) (W : World) : Guar Own Own Sh W W #[] :=
  ⟨Nat.le_refl _, fun _ _ _ => rfl, fun _ h => h, fun _ h => .inl h, fun b h1 h2 => absurd h2 (Nat.not_lt.2 h1), rfl, rfl, rfl, fun e h => by simp at h⟩
section w
variable {P : Program} {main : Bool} {Sh : Nat → Prop} {Stop : (Nat → Prop) → Goroutine → World → Prop}
theorem Walks.idle {O : Nat → Prop} {g g' : Goroutine} {W : World} (hs : g.status = .running) (h : ∀ W1, stepG P main g W1 = .go g' W1) (k : Walks P main Sh Stop O g' W) : Walks P main Sh Stop O g W :=
  Walks.step' hs fun W1 hr => ⟨O, g', W1, #[], h W1, Guar.refl _ _ _, k.rely hr⟩
theorem Walks.frame {S1 : Nat → Prop} {Stop1 : (Nat → Prop) → Goroutine → World → Prop} (R : Nat → Prop) (hS : ∀ b, S1 b → Sh b ∨ R b) {W0 : World} (hst : ∀ O g W, (∀ b, O b → W0.heap.size ≤ b) → Rely R Sh W0 W → Stop1 O g W → Stop (fun b => O b ∨ R b) g W) {O : Nat → Prop} {g : Goroutine} {W : World} (h : Walks P main S1 Stop1 O g W) :
    Rely R Sh W0 W → (∀ b, R b ∨ Sh b → b < W0.heap.size) → (∀ b, O b → W0.heap.size ≤ b) → Walks P main Sh Stop (fun b => O b ∨ R b) g W := by
  have rel : ∀ {O : Nat → Prop} {W W1 : World}, Rely (fun b => O b ∨ R b) Sh W W1 → Rely O S1 W W1 := fun q => ⟨q.size, fun b hb ho => q.keep b hb (ho.elim (fun z => .inl (.inl z)) fun z => (hS b z).elim .inr fun z => .inl (.inr z)), q.tape, q.os, q.output⟩
  have relR : ∀ {O : Nat → Prop} {W W1 : World}, Rely (fun b => O b ∨ R b) Sh W W1 → Rely R Sh W W1 := fun q => ⟨q.size, fun b hb ho => q.keep b hb (ho.imp .inr id), q.tape, q.os, q.output⟩
  induction h with
  | stop h => exact fun h0 _ hO => .stop fun W1 q => hst _ _ _ hO (h0.trans (relR q)) (h W1 (rel q))
  | @step O g W hs O' g' W' es h1 h2 ih =>
    intro h0 hR hO
    refine Walks.step' hs fun W1 q => ?_
    obtain ⟨st, gu⟩ := h1 W1 (rel q)
    have h01 := h0.trans (relR q)
    have g0 : Rely R Sh W1 (W' W1) := ⟨gu.size, fun b hb ho => gu.keep b hb fun z => by have := hO b z; have := hR b ho; omega, gu.tape, gu.os, gu.output⟩
    refine ⟨fun b => O' W1 b ∨ R b, g' W1, W' W1, es W1, st, ⟨gu.size, fun b hb ho => gu.keep b hb fun z => ho (.inl z), fun b z => z.imp (gu.old b) id, fun b z => ?_, fun b z1 z2 => .inl (gu.all b z1 z2), gu.os, gu.output, gu.tape, fun e he => ?_⟩, ih W1 (rel q) (h01.trans g0) hR fun b z => ?_⟩
    · rcases z with z | z
      · exact (gu.new b z).imp .inl id
      · exact .inl (.inr z)
    · have := gu.evs e he
      obtain ⟨loc, wr, sy⟩ := e
      cases loc with
      | cell a => exact ⟨this.1, this.2.elim (fun z => .inl (.inl z)) fun z => (hS _ z.1).elim (fun y => .inr ⟨y, z.2⟩) fun y => .inl (.inr y)⟩
      | obj r => exact ⟨this.1, this.2.elim (fun z => .inl (.inl z)) fun z => (hS _ z.1).elim (fun y => .inr ⟨y, z.2⟩) fun y => .inl (.inr y)⟩
      | mark m => cases m <;> first | exact trivial | exact this.elim
      | output => exact this.elim
      | goroutines => exact this.elim
    · rcases gu.new b z with y | y
      · exact hO b y
      · have := h01.size; omega
end w
abbrev PostW := Exit → Act → (Nat → Prop) → World → Prop
section rules
variable {P : Program} {main : Bool} {Sh : Nat → Prop} {Stop : (Nat → Prop) → Goroutine → World → Prop} {fn : FuncId} {Q : PostW} {a : Act} {O : Nat → Prop} {w : World}
end rules
end Go.Proofs.YtmbfdhekplnoaaaDoor
