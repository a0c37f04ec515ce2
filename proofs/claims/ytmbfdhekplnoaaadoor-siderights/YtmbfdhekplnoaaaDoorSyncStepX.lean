/-
  WHAT IS HANDED ON: by a channel, by a go statement: who hears of it knows all that the other one knew.
  Walks that also lean on what holds of the blocks by which all meet (J); out of walks that do not, and out of the library's quiet ones; an own step of one of many.
  A STEP AT WHAT ALL MEET BY (an atomic access, a mark of the library, a channel that is closed), and a communication: what each leaves of who owns what.
-/
import Derived.Test.YtmbfdhekplnoaaaDoorCrowdWX
import Derived.Test.YtmbfdhekplnoaaaDoorMeet
namespace Go.Proofs.YtmbfdhekplnoaaaDoor
open Go Go.Conc

def ownGive (Own : Nat → Nat → Prop) (b : Nat) (X : Nat → Prop) : Nat → Nat → Prop := fun l x => (l = b ∧ X x) ∨ (Own l x ∧ ¬ X x) ∨ (Own l x ∧ l = b)
theorem ownGive_none (Own : Nat → Nat → Prop) (b : Nat) : ownGive Own b (fun _ => False) = Own := by
  funext l x
  exact propext ⟨fun h => h.elim (fun q => q.2.elim) fun q => q.elim And.left And.left, fun h => .inr (.inl ⟨h, id⟩)⟩
theorem ownGive_to {Own : Nat → Nat → Prop} {b : Nat} {X : Nat → Prop} (x : Nat) : ownGive Own b X b x ↔ (Own b x ∨ X x) := by
  by_cases q : X x
  · exact ⟨fun _ => .inr q, fun _ => .inl ⟨rfl, q⟩⟩
  · exact ⟨fun h => h.elim (fun z => .inr z.2) fun z => .inl (z.elim And.left And.left), fun h => h.elim (fun z => .inr (.inl ⟨z, q⟩)) fun z => absurd z q⟩
theorem ownGive_other {Own : Nat → Nat → Prop} {b l : Nat} {X : Nat → Prop} (h : l ≠ b) (x : Nat) : ownGive Own b X l x ↔ (Own l x ∧ ¬ X x) :=
  ⟨fun q => q.elim (fun z => absurd z.1 h) fun q => q.elim id fun z => absurd z.2 h, fun q => .inr (.inl q)⟩
theorem metOps_touch (c s r a b : Nat) (fa : FuncId) (pa : String) (fb : FuncId) (pb : String) : ∀ op ∈ metOps c s r a b fa pa fb pb, op.act.touch? = none ∧ (op.g = a ∨ op.g = b) := by
  intro op hop
  simp [metOps] at hop
  rcases hop with rfl | rfl | rfl | rfl
  · exact ⟨rfl, .inl rfl⟩
  · exact ⟨rfl, .inr rfl⟩
  · exact ⟨rfl, .inl rfl⟩
  · exact ⟨rfl, .inr rfl⟩
theorem append_at {t u : Trace} {k : Nat} (x : MemOp) (h : u[k]? = some x) : (t ++ u)[t.size + k]? = some x := by
  rw [Array.getElem?_append_right (Nat.le_add_right _ _), Nat.add_sub_cancel_left]
  exact h
section passing
variable {t : Trace} {A : Nat → Prop} {B : Nat} {Own : Nat → Nat → Prop} {Sh Sy : Nat → Prop}
theorem Deaf_met {a b c s r : Nat} {fa : FuncId} {pa : String} {fb : FuncId} {pb : String} (l : Nat) : Deaf (t ++ metOps c s r a b fa pa fb pb) l = Deaf t l := by
  have := Deaf_append t l (metOps c s r a b fa pa fb pb).toList
  rw [Array.toArray_toList] at this
  rw [this]
  rfl
theorem Owners.met (h : Owners t A B Own Sh Sy) {a b c s : Nat} {fa : FuncId} {pa : String} {fb : FuncId} {pb : String} (ha : A a) (da : Deaf t a = 0) (db : Deaf t b = 0) (low : ∀ op ∈ metOps c s s a b fa pa fb pb, op.act.low B) (X : Nat → Prop) (hX : ∀ x, X x → Own a x) :
    Owners (t ++ metOps c s s a b fa pa fb pb) A B (ownGive Own b X) Sh Sy := by
  have u0 : (t ++ metOps c s s a b fa pa fb pb)[t.size + 0]? = some { g := a, fn := fa, pos := pa, act := .send c s } := append_at _ rfl
  have u1 : (t ++ metOps c s s a b fa pa fb pb)[t.size + 1]? = some { g := b, fn := fb, pos := pb, act := .recv c s 0 } := append_at _ rfl
  have u2 : (t ++ metOps c s s a b fa pa fb pb)[t.size + 2]? = some { g := a, fn := fa, pos := pa, act := .sendDone c s } := append_at _ rfl
  have u3 : (t ++ metOps c s s a b fa pa fb pb)[t.size + 3]? = some { g := b, fn := fb, pos := pb, act := .recvDone c s } := append_at _ rfl
  have d0 : ∀ l, (t ++ metOps c s s a b fa pa fb pb).deaf l (t.size + 0) = Deaf t l := fun l => deaf_old (Nat.le_refl _)
  have d3 : ∀ l, (t ++ metOps c s s a b fa pa fb pb).deaf l (t.size + 3) = Deaf t l := fun l => by
    rw [deaf_succ u2, deaf_succ u1, deaf_succ u0, d0 l]
    rfl
  have e : HappensBefore (t ++ metOps c s s a b fa pa fb pb) (t.size + 0) (t.size + 3) :=
    .single (.inr ⟨.handOver (c := c) (k := s) (act?_of u0) (act?_of u3), ⟨a, by unfold Trace.g?; rw [u0]; rfl, by rw [d0]; exact da⟩, ⟨b, by unfold Trace.g?; rw [u3]; rfl, by rw [d3]; exact db⟩⟩)
  exact h.pass (fun op hop => ⟨(metOps_touch _ _ _ _ _ _ _ _ _ op hop).1, low op hop⟩) ha (fun k hk => knows_pass hk (by omega) u0 rfl u3 rfl e) X hX fun l hl => .inl hl
def goOps (i n : Nat) (fi : FuncId) (pi : String) (fc : FuncId) (pc : String) : Array MemOp := #[{ g := i, fn := fi, pos := pi, act := .go n }, { g := n, fn := fc, pos := pc, act := .start }]
theorem Deaf_go {i m : Nat} {fi : FuncId} {pi : String} {fc : FuncId} {pc : String} (l : Nat) : Deaf (t ++ goOps i m fi pi fc pc) l = Deaf t l := by
  have := Deaf_append t l (goOps i m fi pi fc pc).toList
  rw [Array.toArray_toList] at this
  rw [this]
  rfl
theorem Owners.spawned (h : Owners t A B Own Sh Sy) {i n : Nat} {fi : FuncId} {pi : String} {fc : FuncId} {pc : String} (hi : A i) (di : Deaf t i = 0) (dn : Deaf t n = 0) (X : Nat → Prop) (hX : ∀ x, X x → Own i x) :
    Owners (t ++ goOps i n fi pi fc pc) (fun l => A l ∨ l = n) B (ownGive Own n X) Sh Sy := by
  have u0 : (t ++ goOps i n fi pi fc pc)[t.size + 0]? = some { g := i, fn := fi, pos := pi, act := .go n } := append_at _ rfl
  have u1 : (t ++ goOps i n fi pi fc pc)[t.size + 1]? = some { g := n, fn := fc, pos := pc, act := .start } := append_at _ rfl
  have d0 : ∀ l, (t ++ goOps i n fi pi fc pc).deaf l (t.size + 0) = Deaf t l := fun l => deaf_old (Nat.le_refl _)
  have d1 : ∀ l, (t ++ goOps i n fi pi fc pc).deaf l (t.size + 1) = Deaf t l := fun l => by
    rw [deaf_succ u0, d0 l]
    rfl
  have e : HappensBefore (t ++ goOps i n fi pi fc pc) (t.size + 0) (t.size + 1) :=
    .single (.inr ⟨.spawn (child := n) (act?_of u0) (act?_of u1) (by unfold Trace.g?; rw [u1]; rfl), ⟨i, by unfold Trace.g?; rw [u0]; rfl, by rw [d0]; exact di⟩, ⟨n, by unfold Trace.g?; rw [u1]; rfl, by rw [d1]; exact dn⟩⟩)
  refine h.pass (fun op hop => ?_) hi (fun k hk => knows_pass hk (by omega) u0 rfl u1 rfl e) X hX fun l hl => hl
  simp [goOps] at hop
  rcases hop with rfl | rfl <;> exact ⟨rfl, trivial⟩
theorem Owners.first (B : Nat) (Own0 Sh Sy : Nat → Prop) (hO : ∀ b, Own0 b → b < B ∧ ¬ Sh b ∧ ¬ Sy b) (hS : ∀ b, Sh b → b < B ∧ ¬ Sy b) (hy : ∀ b, Sy b → b < B) : Owners #[] (fun i => i = 0) B (fun i b => i = 0 ∧ Own0 b) Sh Sy where
  apart := fun i j b hi hj => by omega
  notSh := fun i b hi => (hO b hi.2).2.1
  lt := fun i b hi => (hO b hi.2).1
  shlt := fun b hb => (hS b hb).1
  seen := fun op hop => absurd hop (by simp)
  own := fun i b k a _ ha _ => by simp [touchAt, Trace.act?] at ha
  sh := fun i b k a _ _ ha _ _ => by simp [touchAt, Trace.act?] at ha
  sylt := hy
  ownSy := fun i b hi => (hO b hi.2).2.2
  shSy := fun b hb => (hS b hb).2
  sy := fun b k a _ ha _ => by simp [touchAt, Trace.act?] at ha
  clean := fun said ⟨i, j, _, ⟨a, b, ha, _⟩, _⟩ => by simp [Trace.act?] at ha
theorem Owners.share (h : Owners t (fun i => i = 0) B Own Sh Sy) (X : Nat → Prop) (hX : ∀ b, X b → Own 0 b) : Owners t (fun i => i = 0) B (fun i b => Own i b ∧ ¬ X b) (fun b => Sh b ∨ X b) Sy where
  apart := fun i j b hi hj => h.apart i j b hi.1 hj.1
  notSh := fun i b hi q => q.elim (h.notSh i b hi.1) hi.2
  lt := fun i b hi => h.lt i b hi.1
  shlt := fun b hb => hb.elim (h.shlt b) fun q => h.lt 0 b (hX b q)
  seen := h.seen
  own := fun i b k a hi => h.own i b k a hi.1
  sh := fun i b k a hi hs ha hb hwr => by
    obtain rfl : i = 0 := hi
    exact hs.elim (fun q => h.sh 0 b k a rfl q ha hb hwr) fun q => h.own 0 b k a (hX b q) ha hb
  sylt := h.sylt
  ownSy := fun i b hi => h.ownSy i b hi.1
  shSy := fun b hb => hb.elim (h.shSy b) fun q => h.ownSy 0 b (hX b q)
  sy := h.sy
  clean := h.clean
theorem Owners.open_ (h : Owners t A B Own Sh Sy) (b0 : Nat) (i : Nat) (hb : Own i b0) (hA : ∀ j, A j → j = i) : Owners t A B (fun j b => Own j b ∧ b ≠ b0) Sh (fun b => Sy b ∨ b = b0) where
  apart := fun i j b hi hj => h.apart i j b hi.1 hj.1
  notSh := fun i b hi => h.notSh i b hi.1
  lt := fun i b hi => h.lt i b hi.1
  shlt := h.shlt
  seen := h.seen
  own := fun i b k a hi => h.own i b k a hi.1
  sh := h.sh
  sylt := fun b q => q.elim (h.sylt b) fun e => by rw [e]; exact h.lt i b0 hb
  ownSy := fun j b hj q => q.elim (h.ownSy j b hj.1) hj.2
  shSy := fun b hs q => q.elim (h.shSy b hs) fun e => h.notSh i b0 hb (e ▸ hs)
  sy := fun b k a q ha hb' => q.elim (fun z => h.sy b k a z ha hb') fun e => .inr fun j hj => by rw [hA j hj]; exact h.own i b0 k a hb ha (e ▸ hb')
  clean := h.clean
end passing
end Go.Proofs.YtmbfdhekplnoaaaDoor

namespace Go.Proofs.YtmbfdhekplnoaaaDoor
open Go Go.Conc

structure RelyJ (J : World → Prop) (O Sh : Nat → Prop) (W W1 : World) : Prop where
  r : Rely O Sh W W1
  j0 : J W
  j : J W1
theorem RelyJ.refl {J : World → Prop} {W : World} (O Sh : Nat → Prop) (hj : J W) : RelyJ J O Sh W W := ⟨Rely.refl _ _ _, hj, hj⟩
theorem RelyJ.trans {J : World → Prop} {O Sh : Nat → Prop} {W W1 W2 : World} (h : RelyJ J O Sh W W1) (k : RelyJ J O Sh W1 W2) : RelyJ J O Sh W W2 := ⟨h.r.trans k.r, h.j0, k.j⟩
def WalksJ (P : Program) (main : Bool) (J : World → Prop) (Sh : Nat → Prop) (Stop : (Nat → Prop) → Goroutine → World → Prop) : WT → (Nat → Prop) → Goroutine → World → Prop
  | .stop, O, g, W => ∀ W1, RelyJ J O Sh W W1 → Stop O g W1
  | .step f, O, g, W => g.status = .running ∧ ∀ W1, RelyJ J O Sh W W1 → ∃ O' g' W' es, stepG P main g W1 = .go g' W' es ∧ Guar O O' Sh W1 W' es ∧ WalksJ P main J Sh Stop (f W1) O' g' W'
def GoesJ (P : Program) (main : Bool) (J : World → Prop) (Sh : Nat → Prop) (Stop : (Nat → Prop) → Goroutine → World → Prop) (O : Nat → Prop) (g : Goroutine) (W : World) : Prop := ∃ T, WalksJ P main J Sh Stop T O g W
section walkj
variable {P : Program} {main : Bool} {J : World → Prop} {Sh : Nat → Prop} {Stop Stop' : (Nat → Prop) → Goroutine → World → Prop} {O : Nat → Prop} {g : Goroutine} {W : World}
theorem WalksJ.of_T : ∀ {T : WT} {O : Nat → Prop} {g : Goroutine} {W : World}, WalksT P main Sh Stop T O g W → WalksJ P main J Sh Stop T O g W
  | .stop, _, _, _, h => fun W1 q => h W1 q.r
  | .step _, _, _, _, h => ⟨h.1, fun W1 q => by
    obtain ⟨O', g', W', es, h1, h2, h3⟩ := h.2 W1 q.r
    exact ⟨O', g', W', es, h1, h2, WalksJ.of_T h3⟩⟩
theorem GoesJ.of (h : Walks P main Sh Stop O g W) : GoesJ P main J Sh Stop O g W := by
  obtain ⟨T, hT⟩ := WalksT.of h
  exact ⟨T, .of_T hT⟩
theorem WalksJ.rely {T : WT} {W1 : World} (h : WalksJ P main J Sh Stop T O g W) (hr : RelyJ J O Sh W W1) : WalksJ P main J Sh Stop T O g W1 := by
  cases T with
  | stop => exact fun W2 q => h W2 (hr.trans q)
  | step f => exact ⟨h.1, fun W2 q => h.2 W2 (hr.trans q)⟩
theorem WalksJ.mono (hs : ∀ O g W, Stop O g W → Stop' O g W) : ∀ {T : WT} {O : Nat → Prop} {g : Goroutine} {W : World}, WalksJ P main J Sh Stop T O g W → WalksJ P main J Sh Stop' T O g W
  | .stop, _, _, _, h => fun W1 q => hs _ _ _ (h W1 q)
  | .step _, _, _, _, h => ⟨h.1, fun W1 q => by
    obtain ⟨O', g', W', es, h1, h2, h3⟩ := h.2 W1 q
    exact ⟨O', g', W', es, h1, h2, WalksJ.mono hs h3⟩⟩
theorem GoesJ.mono (h : GoesJ P main J Sh Stop O g W) (hs : ∀ O g W, Stop O g W → Stop' O g W) : GoesJ P main J Sh Stop' O g W := h.imp fun _ => .mono hs
theorem Guar.none (O Sh : Nat → Prop) (W : World) : Guar O O Sh W W #[] := Guar.refl O Sh W
theorem GoesJ.of_goes {R : World → World → Prop} {S : Goroutine → World → Prop} (hR : ∀ W W1, RelyJ J O Sh W W1 → R W W1) : ∀ {n : Nat} {g : Goroutine} {W : World}, Goes P main R (fun w w' es => w' = w ∧ es = #[]) S n g W → GoesJ P main J Sh (fun O' g W => O' = O ∧ S g W) O g W
  | 0, _, _, h => ⟨.stop, fun W1 q => ⟨rfl, h W1 (hR _ _ q)⟩⟩
  | n + 1, g, W, h => by
    rcases h with h | ⟨hs, h⟩
    · exact ⟨.stop, fun W1 q => ⟨rfl, h W1 (hR _ _ q)⟩⟩
    · have key : ∀ W1, ∃ T : WT, RelyJ J O Sh W W1 → ∃ O' g' W' es, stepG P main g W1 = .go g' W' es ∧ Guar O O' Sh W1 W' es ∧ WalksJ P main J Sh (fun O' g W => O' = O ∧ S g W) T O' g' W' := fun W1 => by
        by_cases q : RelyJ J O Sh W W1
        · have h1 := h W1 (hR _ _ q)
          cases hst : stepG P main g W1 with
          | go g' W' es =>
            rw [hst, goes_go] at h1
            obtain ⟨⟨rfl, rfl⟩, h2⟩ := h1
            obtain ⟨T, hT⟩ := GoesJ.of_goes hR h2
            exact ⟨T, fun _ => ⟨O, g', _, #[], rfl, Guar.none _ _ _, hT⟩⟩
          | _ => rw [hst] at h1; exact h1.elim
        · exact ⟨.stop, fun z => absurd z q⟩
      exact ⟨.step fun W1 => Classical.choose (key W1), hs, fun W1 q => Classical.choose_spec (key W1) q⟩
end walkj
section own
variable {P : Program} {gs : Array Goroutine} {W : World} {sl : Option (Nat × Nat)} {t : Trace} {A : Nat → Prop} {Own : Nat → Nat → Prop} {Sh Sy : Nat → Prop} {J : World → Prop} {Stop : (Nat → Prop) → Goroutine → World → Prop}
theorem Deaf_evs {O S : Nat → Prop} {i l : Nat} {fn : FuncId} {pos : String} {es : Array Event} (h : ∀ e ∈ es, EvG O S e) : Deaf (t ++ MemOp.ofEvents i fn pos es) l = Deaf t l := by
  have := Deaf_append t l (MemOp.ofEvents i fn pos es).toList
  rw [Array.toArray_toList] at this
  rw [this]
  have all : ∀ op ∈ (MemOp.ofEvents i fn pos es).toList, ∀ d, deafStep l d op = d := fun op hop d => by
    obtain ⟨e, he, rfl⟩ := Go.Conc.mem_ofEvents (Array.mem_toList_iff.1 hop)
    have hg := h e he
    obtain ⟨loc, wr, sy⟩ := e
    cases loc with
    | mark m =>
      cases m with
      | noRoom => rfl
      | extern f => rfl
      | _ => exact hg.elim
    | obj r =>
      have hs : sy = false := hg.1
      subst hs
      cases wr <;> rfl
    | _ => rfl
  generalize (MemOp.ofEvents i fn pos es).toList = L at all
  generalize Deaf t l = d
  induction L generalizing d with
  | nil => rfl
  | cons x L ih =>
    rw [List.foldl_cons, all x (by simp) d]
    exact ih (fun op hop => all op (by simp [hop])) d
theorem crowd_ownJ (hO : Owners t A W.heap.size Own Sh Sy) (hJ : ∀ W W', (∀ b, Sy b → W'.heap[b]? = W.heap[b]?) → J W → J W') (hj : J W) {i : Nat} (hin : A i) {g : Goroutine} (hi : gs[i]? = some g) {f : World → WT} (h : WalksJ P (i == 0) J Sh Stop (.step f) (Own i) g W) (d : Nat) :
    ∃ (O' : Nat → Prop) (g' : Goroutine) (W' : World) (es : Array Event) (T' : WT), WT.sub T' (.step f) ∧
      runT P (crowd gs (W.at d) sl) i = (.next (crowd ((gs.map (woken P g g' W')).setIfInBounds i g') W' sl), MemOp.ofEvents i g.frame.fn g.frame.place es) ∧
      WalksJ P (i == 0) J Sh Stop T' O' g' W' ∧ Owners (t ++ MemOp.ofEvents i g.frame.fn g.frame.place es) A W'.heap.size (ownUpd Own i O') Sh Sy ∧ (∀ l, Deaf (t ++ MemOp.ofEvents i g.frame.fn g.frame.place es) l = Deaf t l) ∧
      (∀ j, j ≠ i → RelyJ J (Own j) Sh W W') ∧ (∀ b, Sy b → W'.heap[b]? = W.heap[b]?) ∧ W'.os = W.os ∧ W'.output = W.output ∧ W'.tape = W.tape ∧ (∀ e ∈ es, EvG O' Sh e) ∧ (∀ b, Own i b → O' b) := by
  obtain ⟨_, h2⟩ := h
  obtain ⟨O', g', W', es, hs, hg, hw⟩ := h2 (W.at d) ⟨Rely.at _ _ _ _, hj, hJ W (W.at d) (fun _ _ => rfl) hj⟩
  have hsz : (W.at d).heap.size = W.heap.size := rfl
  have hsy : ∀ b, Sy b → W'.heap[b]? = W.heap[b]? := fun b hb => (hg.sync hO (show W.heap.size ≤ (W.at d).heap.size from Nat.le_refl _) b hb : W'.heap[b]? = (W.at d).heap[b]?)
  exact ⟨O', g', W', es, f (W.at d), ⟨f, _, rfl, rfl⟩, runT_crowd_go hi hs, hw, hO.step hin (hsz ▸ hg.size) hg.old (fun b hb => hg.new b hb) hg.evs, fun _ => Deaf_evs hg.evs,
    fun j hij => ⟨(hg.rely hO hij).of_at, hj, hJ _ _ hsy hj⟩, hsy, hg.os, hg.output, hg.tape, hg.evs, hg.old⟩
end own
end Go.Proofs.YtmbfdhekplnoaaaDoor

namespace Go.Proofs.YtmbfdhekplnoaaaDoor
open Go Go.Conc

def EvS (Sy : Nat → Prop) (i : Nat) (e : Event) : Prop :=
  match e.loc with
  | .cell a => e.sync = true ∧ Sy a.block
  | .obj c => e.sync = true ∧ Sy c
  | .mark (.read a) => Sy a.block ∧ i = 0
  | .mark (.write a) => Sy a.block ∧ i = 0
  | .mark (.acquire a) => Sy a.block
  | .mark (.release a) => Sy a.block
  | .mark (.releaseMerge a) => Sy a.block
  | .mark _ => True
  | _ => False
theorem evS_op {Sy : Nat → Prop} {i B : Nat} {e : Event} (h : EvS Sy i e) (hy : ∀ b, Sy b → b < B) : (MemAct.ofEvent e).low B ∧ ∀ a, (MemAct.ofEvent e).touch? = some a → ∃ b, blockOf a.loc = some b ∧ Sy b ∧ (a.kind = .atomic ∨ (a.kind = .said ∧ i = 0)) := by
  obtain ⟨loc, wr, sy⟩ := e
  cases loc with
  | cell a =>
    obtain ⟨hs, hb⟩ := h
    have hs : sy = true := hs
    subst hs
    refine ⟨hy _ hb, fun x hx => ?_⟩
    have hx : some (⟨.cell a, wr, .atomic⟩ : Touch) = some x := hx
    cases hx
    exact ⟨a.block, rfl, hb, .inl rfl⟩
  | obj c =>
    obtain ⟨hs, hb⟩ := h
    have hs : sy = true := hs
    subst hs
    cases wr with
    | true => exact ⟨hy _ hb, fun x hx => by cases hx⟩
    | false =>
      refine ⟨hy _ hb, fun x hx => ?_⟩
      have hx : some (⟨.obj c, false, .atomic⟩ : Touch) = some x := hx
      cases hx
      exact ⟨c, rfl, hb, .inl rfl⟩
  | mark m =>
    cases m with
    | read a => exact ⟨hy _ h.1, fun x hx => by cases hx; exact ⟨a.block, rfl, h.1, .inr ⟨rfl, h.2⟩⟩⟩
    | write a => exact ⟨hy _ h.1, fun x hx => by cases hx; exact ⟨a.block, rfl, h.1, .inr ⟨rfl, h.2⟩⟩⟩
    | acquire a => exact ⟨hy _ h, fun x hx => by cases hx⟩
    | release a => exact ⟨hy _ h, fun x hx => by cases hx⟩
    | releaseMerge a => exact ⟨hy _ h, fun x hx => by cases hx⟩
    | _ => exact ⟨trivial, fun x hx => by cases hx⟩
  | _ => exact h.elim
section sync
variable {P : Program} {gs : Array Goroutine} {W W' : World} {sl : Option (Nat × Nat)} {t : Trace} {A : Nat → Prop} {Own : Nat → Nat → Prop} {Sh Sy : Nat → Prop}
structure SyOnly (Sy : Nat → Prop) (W W' : World) : Prop where
  size : W'.heap.size = W.heap.size
  keep : ∀ b, ¬ Sy b → W'.heap[b]? = W.heap[b]?
  os : W'.os = W.os
  output : W'.output = W.output
  tape : W'.tape = W.tape
theorem SyOnly.rely {B : Nat} (hO : Owners t A B Own Sh Sy) (h : SyOnly Sy W W') (j : Nat) : Rely (Own j) Sh W W' :=
  ⟨by rw [h.size]; exact Nat.le_refl _, fun b _ ho => h.keep b fun q => ho.elim (fun z => hO.ownSy j b z q) fun z => hO.shSy b z q, h.tape, h.os, h.output⟩
theorem SyOnly.at (Sy : Nat → Prop) (W : World) (d : Nat) : SyOnly Sy W (W.at d) := ⟨rfl, fun _ _ => rfl, rfl, rfl, rfl⟩
theorem SyOnly.trans {W2 : World} (h : SyOnly Sy W W') (k : SyOnly Sy W' W2) : SyOnly Sy W W2 := ⟨k.size.trans h.size, fun b q => (k.keep b q).trans (h.keep b q), k.os.trans h.os, k.output.trans h.output, k.tape.trans h.tape⟩
theorem SyOnly.setChan {c cap s r : Nat} {buf : Array Value} {closed tm : Bool} (hc : Sy c) : SyOnly Sy W (W.setChan c cap buf closed s r tm) :=
  ⟨by simp [World.setChan], fun b hb => by
    have : c ≠ b := fun e => hb (e ▸ hc)
    simp [World.setChan, Array.getElem?_setIfInBounds_ne this], rfl, rfl, rfl⟩
theorem SyOnly.setCell {a : Addr} {v : Value} (ha : Sy a.block) : SyOnly Sy W (W.setCell a v) :=
  ⟨by simp [World.setCell], fun b hb => RowKit.Below.heap_setCell _ _ _ _ (fun e => hb (e ▸ ha)), rfl, rfl, rfl⟩
theorem crowd_sync (hO : Owners t A W.heap.size Own Sh Sy) {i : Nat} {g g' : Goroutine} {es : Array Event} (hi : gs[i]? = some g) (d : Nat) (h : stepG P (i == 0) g (W.at d) = .go g' W' es) (hW : SyOnly Sy W W') (hA : es.size = 0 ∨ A i) (hes : ∀ e ∈ es, EvS Sy i e) :
    runT P (crowd gs (W.at d) sl) i = (.next (crowd ((gs.map (woken P g g' W')).setIfInBounds i g') W' sl), MemOp.ofEvents i g.frame.fn g.frame.place es) ∧
      Owners (t ++ MemOp.ofEvents i g.frame.fn g.frame.place es) A W'.heap.size Own Sh Sy ∧ ∀ j, Rely (Own j) Sh W W' := by
  refine ⟨runT_crowd_go hi h, ?_, fun j => hW.rely hO j⟩
  rw [hW.size]
  refine hO.meet (i0 := i) (fun op hop => by obtain ⟨_, _, rfl⟩ := Go.Conc.mem_ofEvents hop; rfl) fun op hop => ?_
  obtain ⟨e, he, rfl⟩ := Go.Conc.mem_ofEvents hop
  obtain ⟨h1, h2⟩ := evS_op (hes e he) hO.sylt
  refine ⟨h1, fun a ha => ⟨hA.elim (fun z => ?_) id, h2 a ha⟩⟩
  have := Array.size_pos_of_mem he
  omega
end sync
end Go.Proofs.YtmbfdhekplnoaaaDoor
