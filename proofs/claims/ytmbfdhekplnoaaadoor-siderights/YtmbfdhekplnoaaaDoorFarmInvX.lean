/-
  TOLD: each worker has said its release while it was heard, and touches but the group behind it, unheard; the starter's acquire hands all over.
  A STARTER AND ITS WORKERS over two channels without room: numbers go out by the one, what was made comes back by the other, in one select. What is asked of each, and the invariant.
  THE FARM'S INVARIANT, and its steps: an own one; one that waits; one that meets.
-/
import Derived.Test.YtmbfdhekplnoaaaDoorSyncStepX
import Derived.Conc.CrowdTrace
namespace Go.Proofs.YtmbfdhekplnoaaaDoor
open Go Go.Conc

def NR (x : MemAct) : Prop := ∀ a, x ≠ .mark (.release a)
structure Telling (a : Addr) (t : Trace) (k r : Nat) : Prop where
  act : t.act? r = some (.mark (.releaseMerge a))
  g : t.g? r = some k
  heard : t.heard r
  after : ∀ i x, r < i → t.g? i = some k → touchAt t i = some x → x.kind = .atomic ∧ ¬ t.heard i
structure Told (a : Addr) (n : Nat) (old rel : Nat → Prop) (t : Trace) : Prop where
  norel : ∀ a', NoRelease a' t
  says : ∀ k, rel k → ∃ r, Telling a t k r
  over : ∀ i g, t.g? i = some g → old g → t.counts i → ∃ j, t.g? j = some 0 ∧ HappensBefore t i j
  who : ∀ i g, t.g? i = some g → g < n
section told
variable {a : Addr} {n : Nat} {old rel : Nat → Prop} {t u : Trace}
theorem g?_lt {i g : Nat} (h : t.g? i = some g) : i < t.size := by
  obtain ⟨z, hz, _⟩ := Option.map_eq_some_iff.1 h
  exact lt_size_of_getElem? hz
theorem g?_new {i g : Nat} (hi : t.size ≤ i) (h : (t ++ u).g? i = some g) : ∃ op ∈ u, op.g = g ∧ (t ++ u)[i]? = some op := by
  obtain ⟨z, hz, e⟩ := Option.map_eq_some_iff.1 h
  rcases getElem?_append_cases hz with ⟨hlt, _⟩ | ⟨_, hm⟩
  · omega
  · exact ⟨z, hm, e, hz⟩
theorem touch_new {i : Nat} {x : Touch} (hi : t.size ≤ i) (h : touchAt (t ++ u) i = some x) : ∃ op ∈ u, op.act.touch? = some x ∧ (t ++ u)[i]? = some op := by
  obtain ⟨z, hz, e⟩ := touch_of h
  rcases getElem?_append_cases hz with ⟨hlt, _⟩ | ⟨_, hm⟩
  · omega
  · exact ⟨z, hm, e, hz⟩
theorem Telling.app {k r : Nat} (h : Telling a t k r) (hu : ∀ i x, t.size ≤ i → (t ++ u).g? i = some k → touchAt (t ++ u) i = some x → x.kind = .atomic ∧ ¬ (t ++ u).heard i) : Telling a (t ++ u) k r := by
  have hr := lt_of_act? h.act
  refine ⟨by rw [act?_old hr]; exact h.act, by rw [g?_old hr]; exact h.g, (heard_old hr).2 h.heard, fun i x hi hg hx => ?_⟩
  rcases Nat.lt_or_ge i t.size with hlt | hge
  · rw [g?_old hlt] at hg
    rw [touchAt_old hlt] at hx
    rw [heard_old hlt]
    exact h.after i x hi hg hx
  · exact hu i x hge hg hx
theorem Told.app (h : Told a n old rel t) (hn : ∀ op ∈ u, NR op.act) (hw : ∀ op ∈ u, op.g < n) (hu : ∀ i k x, t.size ≤ i → (t ++ u).g? i = some k → touchAt (t ++ u) i = some x → ¬ old k ∧ (rel k → x.kind = .atomic ∧ ¬ (t ++ u).heard i)) : Told a n old rel (t ++ u) := by
  refine ⟨fun a' => (h.norel a').app fun op hop => hn op hop a', fun k hk => ?_, fun i g hg ho hc => ?_, fun i g hg => ?_⟩
  · obtain ⟨r, hr⟩ := h.says k hk
    exact ⟨r, hr.app fun i x hi hg hx => (hu i k x hi hg hx).2 hk⟩
  · rcases Nat.lt_or_ge i t.size with hlt | hge
    · obtain ⟨j, hj, hb⟩ := h.over i g (by rw [← g?_old (u := u) hlt]; exact hg) ho ((counts_old hlt).1 hc)
      exact ⟨j, by rw [g?_old (g?_lt hj)]; exact hj, hb_app u hb⟩
    · obtain ⟨x, hx, _⟩ := hc
      exact absurd ho (hu i g x hge hg hx).1
  · rcases Nat.lt_or_ge i t.size with hlt | hge
    · exact h.who i g (by rw [← g?_old (u := u) hlt]; exact hg)
    · obtain ⟨op, hop, e, _⟩ := g?_new hge hg
      rw [← e]; exact hw op hop
theorem Told.mute (h : Told a n old rel t) (hn : ∀ op ∈ u, NR op.act) (hw : ∀ op ∈ u, op.g < n) (hu : ∀ op ∈ u, op.act.touch? = none) : Told a n old rel (t ++ u) :=
  h.app hn hw fun i k x hi _ hx => by
    obtain ⟨op, hop, e, _⟩ := touch_new hi hx
    rw [hu op hop] at e; cases e
theorem Told.own (h : Told a n old rel t) {k : Nat} (hn : ∀ op ∈ u, NR op.act) (hk : ∀ op ∈ u, op.g = k) (hkn : k < n) (ho : ¬ old k) (hr : ¬ rel k) : Told a n old rel (t ++ u) :=
  h.app hn (fun op hop => by rw [hk op hop]; exact hkn) fun i l x hi hg hx => by
    obtain ⟨op, hop, e, _⟩ := g?_new hi hg
    rw [hk op hop] at e
    subst e
    exact ⟨ho, fun q => absurd q hr⟩
theorem Told.unheard (h : Told a n old rel t) {k : Nat} {fn : FuncId} {pos : String} {es : Array Event} (hkn : k < n) (ho : ¬ old k) (hd : Deaf t k ≠ 0) (he : ∀ e ∈ es, ∃ b w, e = ⟨.cell b, w, true⟩) : Told a n old rel (t ++ MemOp.ofEvents k fn pos es) := by
  have hg : ∀ op ∈ MemOp.ofEvents k fn pos es, op.g = k ∧ ∃ b w, op.act = .access ⟨.cell b, w, true⟩ := fun op hop => by
    obtain ⟨e, hem, rfl⟩ := Go.Conc.mem_ofEvents hop
    obtain ⟨b, w, rfl⟩ := he e hem
    exact ⟨rfl, b, w, rfl⟩
  have hdeaf : ∀ j, (t ++ MemOp.ofEvents k fn pos es).deaf k (t.size + j) ≠ 0 := by
    intro j
    induction j with
    | zero => rw [Nat.add_zero, deaf_old (Nat.le_refl _)]; exact hd
    | succ j ih =>
      cases hx : (t ++ MemOp.ofEvents k fn pos es)[t.size + j]? with
      | none =>
        have e : (t ++ MemOp.ofEvents k fn pos es).deaf k (t.size + (j + 1)) = (t ++ MemOp.ofEvents k fn pos es).deaf k (t.size + j) := by
          rw [← Nat.add_assoc, Trace.deaf, hx]
        rw [e]; exact ih
      | some op =>
        rw [← Nat.add_assoc, deaf_succ hx]
        rcases getElem?_append_cases hx with ⟨h1, _⟩ | ⟨_, hm⟩
        · omega
        · obtain ⟨_, b, w, e⟩ := hg op hm
          unfold deafStep
          rw [e]
          exact ih
  refine h.app (fun op hop _ e => by obtain ⟨_, b, w, q⟩ := hg op hop; rw [q] at e; cases e) (fun op hop => by rw [(hg op hop).1]; exact hkn) fun i l x hi hgi hx => ?_
  obtain ⟨op, hop, e, _⟩ := g?_new hi hgi
  rw [(hg op hop).1] at e
  subst e
  refine ⟨ho, fun _ => ⟨?_, ?_⟩⟩
  · obtain ⟨op', hop', e', _⟩ := touch_new hi hx
    obtain ⟨_, b, w, q⟩ := hg op' hop'
    rw [q] at e'
    cases e'
    rfl
  · rintro ⟨l, hl, hz⟩
    rw [hgi] at hl
    cases hl
    have := hdeaf (i - t.size)
    rw [Nat.add_sub_cancel' hi] at this
    exact this hz
theorem ofEvents_app (k : Nat) (fn : FuncId) (pos : String) (a b : Array Event) : MemOp.ofEvents k fn pos (a ++ b) = MemOp.ofEvents k fn pos a ++ MemOp.ofEvents k fn pos b := by
  rw [ofEvents_eq, ofEvents_eq, ofEvents_eq, Array.map_append]
theorem Told.mark (h : Told a n old rel t) {k : Nat} {fn : FuncId} {pos : String} {m : Mark} (hkn : k < n) (hm : m = .disable ∨ m = .enable) : Told a n old rel (t ++ MemOp.ofEvents k fn pos #[⟨.mark m, false, true⟩]) := by
  have all : ∀ op ∈ MemOp.ofEvents k fn pos #[⟨.mark m, false, true⟩], op.g = k ∧ op.act = .mark m := fun op hop => by
    obtain ⟨e, he, rfl⟩ := Go.Conc.mem_ofEvents hop
    rw [Array.mem_singleton.1 he]
    rcases hm with rfl | rfl <;> exact ⟨rfl, rfl⟩
  refine h.mute (fun op hop _ e => ?_) (fun op hop => by rw [(all op hop).1]; exact hkn) fun op hop => ?_
  · rw [(all op hop).2] at e
    rcases hm with rfl | rfl <;> cases e
  · rw [(all op hop).2]
    rcases hm with rfl | rfl <;> rfl
theorem Told.sem (h : Told a n old rel t) {k : Nat} {fn : FuncId} {pos : String} {ad : Addr} (hkn : k < n) (ho : ¬ old k) : Told a n old rel (t ++ MemOp.ofEvents k fn pos (semEvents ad)) := by
  have e : semEvents ad = (#[⟨.mark .disable, false, true⟩] ++ #[⟨.cell ad, false, true⟩, ⟨.cell ad, true, true⟩]) ++ #[⟨.mark .enable, false, true⟩] := rfl
  rw [e, ofEvents_app, ofEvents_app, ← Array.append_assoc, ← Array.append_assoc]
  have h1 := h.mark (fn := fn) (pos := pos) (m := .disable) hkn (.inl rfl)
  have d1 : Deaf (t ++ MemOp.ofEvents k fn pos #[⟨.mark .disable, false, true⟩]) k ≠ 0 := by
    rw [Deaf_own]
    show Deaf t k + 1 ≠ 0
    omega
  have h2 := h1.unheard (fn := fn) (pos := pos) (es := #[⟨.cell ad, false, true⟩, ⟨.cell ad, true, true⟩]) hkn ho d1 fun e he => by
    simp at he
    rcases he with rfl | rfl
    · exact ⟨ad, false, rfl⟩
    · exact ⟨ad, true, rfl⟩
  exact h2.mark hkn (.inr rfl)
theorem Told.say (h : Told a n old rel t) {k : Nat} {op : MemOp} (hg : op.g = k) (ha : op.act = .mark (.releaseMerge a)) (hkn : k < n) (hd : Deaf t k = 0) : Told a n old (fun l => rel l ∨ l = k) (t ++ #[op]) := by
  have new : ∀ i x, t.size ≤ i → touchAt (t ++ #[op]) i = some x → False := fun i x hi hx => by
    obtain ⟨z, hm, hzx, _⟩ := touch_new hi hx
    simp at hm
    rw [hm, ha] at hzx
    cases hzx
  have base := h.app (u := #[op]) (fun o ho _ e => by simp at ho; rw [ho, ha] at e; cases e) (fun o ho => by simp at ho; rw [ho, hg]; exact hkn) fun i l x hi _ hx => (new i x hi hx).elim
  refine ⟨base.norel, fun l hl => ?_, base.over, base.who⟩
  rcases hl with hl | rfl
  · exact base.says l hl
  · refine ⟨t.size, by simp [Trace.act?, ha], by simp [Trace.g?, hg], ⟨l, by simp [Trace.g?, hg], ?_⟩, fun i x hi _ hx => (new i x (by omega) hx).elim⟩
    rw [deaf_old (Nat.le_refl _)]
    exact hd
theorem Told.past (h : Told a n old rel t) {op : MemOp} (hg : op.g = 0) (ha : op.act = .mark (.acquire a)) (hd : Deaf t 0 = 0) (all : ∀ g, g < n → g = 0 ∨ old g ∨ rel g) (hn : 0 < n) : (t ++ #[op]).HandedOver := by
  have new : ∀ i x, t.size ≤ i → touchAt (t ++ #[op]) i = some x → False := fun i x hi hx => by
    obtain ⟨z, hm, hzx, _⟩ := touch_new hi hx
    simp at hm
    rw [hm, ha] at hzx
    cases hzx
  have T := h.app (u := #[op]) (fun o ho _ e => by simp at ho; rw [ho, ha] at e; cases e) (fun o ho => by simp at ho; rw [ho, hg]; exact hn) fun i l x hi _ hx => (new i x hi hx).elim
  have hq : (t ++ #[op]).act? t.size = some (.mark (.acquire a)) := by simp [Trace.act?, ha]
  have hq0 : (t ++ #[op]).g? t.size = some 0 := by simp [Trace.g?, hg]
  have hqh : (t ++ #[op]).heard t.size := ⟨0, hq0, by rw [deaf_old (Nat.le_refl _)]; exact hd⟩
  -- what a worker did up to its release happens before the acquire
  have edge : ∀ k r i, Telling a (t ++ #[op]) k r → r < t.size → i ≤ r → (t ++ #[op]).g? i = some k → HappensBefore (t ++ #[op]) i t.size := fun k r i hr hlt hi hgi => by
    have e : HappensBefore (t ++ #[op]) r t.size := .single (.inr ⟨.marked hlt (.inr hr.act) hq (fun k _ _ => T.norel _ k), hr.heard, hqh⟩)
    rcases Nat.lt_or_ge i r with hl | hge
    · exact .trans (.single (.inl ⟨hl, k, hgi, hr.g⟩)) e
    · obtain rfl : i = r := by omega
      exact e
  have rlt : ∀ k r, Telling a (t ++ #[op]) k r → r < t.size := fun k r hr => by
    have h1 := lt_of_act? hr.act
    have h2 : r ≠ t.size := fun e => by have := hr.act; rw [e, hq] at this; cases this
    simp at h1
    omega
  intro i g hgi hne hc
  rcases all g (T.who i g hgi) with e | e | e
  · exact absurd e hne
  · exact T.over i g hgi e hc
  · obtain ⟨r, hr⟩ := T.says g e
    rcases Nat.lt_or_ge r i with hl | hge
    · obtain ⟨x, hx, _, hk⟩ := hc
      have := hr.after i x hl hgi hx
      exact (hk.elim (fun z => absurd this.1 z) this.2).elim
    · exact ⟨t.size, hq0, edge g r i hr (rlt _ _ hr) hge hgi⟩
end told
end Go.Proofs.YtmbfdhekplnoaaaDoor

namespace Go.Proofs.YtmbfdhekplnoaaaDoor
open Go Go.Conc
open Go.ConcN (sumTo upd sumTo_upd upd_ne upd_same)

abbrev Stp := (Nat → Prop) → Goroutine → World → Prop
structure Farm where
  P : Program
  J : World → Prop
  Sh : Nat → Prop
  Sy : Nat → Prop
  cn : Nat
  cb : Nat
  M : Nat
  N : Nat
  R : Nat → Value → (Nat → Prop) → World → Prop
  Done : Stp
  Close : List Nat → Stp
  num : Int → Value
  /-- what holds of the other blocks by which all meet; who was leaving when it began -/
  Hold : World → Prop
  Q : Nat → Bool
  /-- where the release is said -/
  ga : Addr
def Farm.A (F : Farm) : Nat → Prop := fun k => k < F.N + 1 ∧ F.Q k = false
structure Farm.Known (F : Farm) : Prop where
  cnb : F.cn ≠ F.cb
  syn : F.Sy F.cn
  syb : F.Sy F.cb
  jst : ∀ W W', (∀ b, F.Sy b → W'.heap[b]? = W.heap[b]?) → F.J W → F.J W'
  jch : ∀ W c s s' tm, (c = F.cn ∨ c = F.cb) → W.heap[c]? = some (.chan 0 #[] false s s tm) → F.J W → F.J (W.setChan c 0 #[] false s' s' tm)
  hst : ∀ W W', (∀ b, F.Sy b → b ≠ F.cn → b ≠ F.cb → W'.heap[b]? = W.heap[b]?) → F.Hold W → F.Hold W'
  rst : ∀ i v X W W1, F.R i v X W → Rely X F.Sh W W1 → F.R i v X W1
section farm
variable (F : Farm)
/-! ### a worker -/
def SendC (i : Nat) (Nx : Stp) (O : Nat → Prop) (g₂ : Goroutine) (v z : Value) (sh : CommShape) (X : Nat → Prop) (W : World) : Prop :=
  (∀ x, X x → O x) ∧ F.R i v X W ∧ ∀ W1, RelyJ F.J (fun x => O x ∧ ¬ X x) F.Sh W W1 → GoesJ F.P false F.J F.Sh Nx (fun x => O x ∧ ¬ X x) (g₂.finishComm F.P #[scase F.cb v z] sh 0 undef false) W1
def KSend (i : Nat) (Nx : Stp) : Stp := fun O g W => g.status = .running ∧ ∃ g₂ v z sh X, (∀ d, stepG F.P false g (W.at d) = .comm g₂ #[scase F.cb v z] true sh (W.at d) #[]) ∧ SendC F i Nx O g₂ v z sh X W
def OverC (O : Nat → Prop) (g₂ : Goroutine) (z : Value) (sh : CommShape) (W : World) : Prop := (∀ W1, stepG F.P false { parked g₂ #[rcase F.cn z] sh with status := .running } W1 = .comm g₂ #[rcase F.cn z] true sh W1 #[]) ∧ ∀ W1, RelyJ F.J O F.Sh W W1 → GoesJ F.P false F.J F.Sh F.Done O (g₂.finishComm F.P #[rcase F.cn z] sh 0 z false) W1
def TaskC (Nx : Stp) (O : Nat → Prop) (g₂ : Goroutine) (z : Value) (sh : CommShape) (W : World) : Prop := ∀ i, i < F.M → ∀ W1, RelyJ F.J O F.Sh W W1 → GoesJ F.P false F.J F.Sh (KSend F i Nx) O (g₂.finishComm F.P #[rcase F.cn z] sh 0 (F.num i) true) W1
def KRecv : Nat → Stp
  | 0 => fun O g W => g.status = .running ∧ ∃ g₂ z sh, (∀ d, stepG F.P false g (W.at d) = .comm g₂ #[rcase F.cn z] true sh (W.at d) #[]) ∧ OverC F O g₂ z sh W
  | f + 1 => fun O g W => g.status = .running ∧ ∃ g₂ z sh, (∀ d, stepG F.P false g (W.at d) = .comm g₂ #[rcase F.cn z] true sh (W.at d) #[]) ∧ OverC F O g₂ z sh W ∧ TaskC F (KRecv f) O g₂ z sh W
def RecvC (f : Nat) (O : Nat → Prop) (g₂ : Goroutine) (z : Value) (sh : CommShape) (W : World) : Prop := OverC F O g₂ z sh W ∧ ∀ f', f = f' + 1 → TaskC F (KRecv F f') O g₂ z sh W
/-! ### the starter -/
def SelCases (next : Nat) (cs : Array CommCase) (ks kr : Nat) : Prop :=
  ks ≠ kr ∧ ks < 2 ∧ kr < 2 ∧ cs.size = 2 ∧ (∃ z, cs[kr]? = some (rcase F.cb z)) ∧ (next < F.M → ∃ z, cs[ks]? = some (scase F.cn (F.num next) z)) ∧ (¬ next < F.M → ∃ cc, cs[ks]? = some cc ∧ cc.chan = .chan none)
def SelC (Nx : Nat → List Nat → Stp) (next : Nat) (ds : List Nat) (O : Nat → Prop) (g₂ : Goroutine) (cs : Array CommCase) (sh : CommShape) (W : World) : Prop :=
  ∃ ks kr, SelCases F next cs ks kr ∧
    (next < F.M → ∀ W1, RelyJ F.J O F.Sh W W1 → GoesJ F.P true F.J F.Sh (Nx (next + 1) ds) O (g₂.finishComm F.P cs sh ks undef false) W1) ∧
    ∀ i v X, i < next → i ∉ ds → (∀ x, X x → ¬ O x) → ∀ W1, RelyJ F.J O F.Sh W W1 → F.R i v X W1 → GoesJ F.P true F.J F.Sh (Nx next (i :: ds)) (fun x => O x ∨ X x) (g₂.finishComm F.P cs sh kr v true) W1
def MSel : Nat → Nat → List Nat → Stp
  | 0, _, ds => F.Close ds
  | m + 1, next, ds => fun O g W => g.status = .running ∧ ∃ g₂ cs sh, (∀ d, stepG F.P true g (W.at d) = .comm g₂ cs true sh (W.at d) #[]) ∧ SelC F (MSel m) next ds O g₂ cs sh W
/-! ### where each stands -/
inductive KTag
  | walkR (f : Nat) | parkR (f : Nat) | walkS (i f : Nat) | parkS (i f : Nat) | mwalk | mpark | quit (q : Nat)
def KTag.fuel : KTag → Nat
  | .walkR f | .parkR f | .walkS _ f | .parkS _ f => f
  | _ => 0
def KTag.task : KTag → Option Nat
  | .walkS i _ | .parkS i _ => some i
  | _ => none
def KTag.up : KTag → Nat
  | .walkR _ | .walkS _ _ | .mwalk => 1
  | _ => 0
def KTag.parks : KTag → Bool
  | .parkR _ | .parkS _ _ | .mpark => true
  | _ => false
def KTag.quits : KTag → Bool
  | .quit _ => true
  | _ => false
def WT.chain : Nat → WT
  | 0 => .stop
  | n + 1 => .step fun _ => WT.chain n
def At (m next : Nat) (ds : List Nat) (T : WT) (O : Nat → Prop) (g : Goroutine) (W : World) : KTag → Prop
  | .walkR f => WalksJ F.P false F.J F.Sh (KRecv F f) T O g W
  | .parkR f => ∃ g₂ z sh, g = parked g₂ #[rcase F.cn z] sh ∧ RecvC F f O g₂ z sh W
  | .walkS i f => WalksJ F.P false F.J F.Sh (KSend F i (KRecv F f)) T O g W
  | .parkS i f => ∃ g₂ v z sh X, g = parked g₂ #[scase F.cb v z] sh ∧ SendC F i (KRecv F f) O g₂ v z sh X W
  | .mwalk => WalksJ F.P true F.J F.Sh (MSel F m next ds) T O g W
  | .mpark => ∃ g₂ cs sh m', g = parked g₂ cs sh ∧ m = m' + 1 ∧ SelC F (MSel F m') next ds O g₂ cs sh W
  | .quit q => T = WT.chain q ∧ ∃ d, QuitsD F.P q d g
variable {F}
theorem KRecv.iff {f : Nat} {O : Nat → Prop} {g : Goroutine} {W : World} : KRecv F f O g W ↔ g.status = .running ∧ ∃ g₂ z sh, (∀ d, stepG F.P false g (W.at d) = .comm g₂ #[rcase F.cn z] true sh (W.at d) #[]) ∧ RecvC F f O g₂ z sh W := by
  cases f with
  | zero => exact ⟨fun ⟨h, g₂, z, sh, a, b⟩ => ⟨h, g₂, z, sh, a, b, fun f' e => by cases e⟩, fun ⟨h, g₂, z, sh, a, b⟩ => ⟨h, g₂, z, sh, a, b.1⟩⟩
  | succ f => exact ⟨fun ⟨h, g₂, z, sh, a, b, c⟩ => ⟨h, g₂, z, sh, a, b, fun f' e => by cases e; exact c⟩, fun ⟨h, g₂, z, sh, a, b⟩ => ⟨h, g₂, z, sh, a, b.1, b.2 f rfl⟩⟩
theorem RelyJ.less {J : World → Prop} {O O' Sh : Nat → Prop} {W W1 : World} (h : RelyJ J O Sh W W1) (hO : ∀ b, O' b → O b) : RelyJ J O' Sh W W1 := ⟨⟨h.r.size, fun b hb q => h.r.keep b hb (q.imp (hO b) id), h.r.tape, h.r.os, h.r.output⟩, h.j0, h.j⟩
theorem At.rely (K : F.Known) {m next : Nat} {ds : List Nat} {T : WT} {O : Nat → Prop} {g : Goroutine} {W W1 : World} {k : KTag} (h : At F m next ds T O g W k) (hr : RelyJ F.J O F.Sh W W1) : At F m next ds T O g W1 k := by
  cases k with
  | quit q => exact h
  | walkR f => exact WalksJ.rely h hr
  | walkS i f => exact WalksJ.rely h hr
  | mwalk => exact WalksJ.rely h hr
  | parkR f =>
    obtain ⟨g₂, z, sh, e, h1, h2⟩ := h
    exact ⟨g₂, z, sh, e, ⟨h1.1, fun W2 q => h1.2 W2 (hr.trans q)⟩, fun f' ef i hi W2 q => h2 f' ef i hi W2 (hr.trans q)⟩
  | parkS i f =>
    obtain ⟨g₂, v, z, sh, X, e, h1, h2, h3⟩ := h
    exact ⟨g₂, v, z, sh, X, e, h1, K.rst i v X W W1 h2 (hr.less h1).r, fun W2 q => h3 W2 ((hr.less fun _ z => z.1).trans q)⟩
  | mpark =>
    obtain ⟨g₂, cs, sh, m', e, em, ks, kr, hc, h1, h2⟩ := h
    exact ⟨g₂, cs, sh, m', e, em, ks, kr, hc, fun hn W2 q => h1 hn W2 (hr.trans q), fun i v X a b c W2 q => h2 i v X a b c W2 (hr.trans q)⟩
end farm
end Go.Proofs.YtmbfdhekplnoaaaDoor

namespace Go.Proofs.YtmbfdhekplnoaaaDoor
open Go Go.Conc
open Go.ConcN (sumTo upd sumTo_upd upd_ne upd_same)

structure FarmAt (F : Farm) (gs : Array Goroutine) (W : World) (t : Trace) (κ : Nat → KTag) (T : Nat → WT) (Own : Nat → Nat → Prop) (m next : Nat) (ds : List Nat) : Prop where
  size : gs.size = F.N + 1
  own : Owners t F.A W.heap.size Own F.Sh F.Sy
  told : Told F.ga (F.N + 1) (fun k => F.Q k = true) (fun _ => False) t
  deaf : ∀ i, i < F.N + 1 → (κ i).quits = false → Deaf t i = 0
  left : ∀ k q g, k < F.N + 1 → κ k = .quit q → gs[k]? = some g → QuitsD F.P q (Deaf t k) g
  crew : 0 < F.M → ∃ k, 1 ≤ k ∧ k < F.N + 1 ∧ (κ k).quits = false
  cn : ∃ s tm, W.heap[F.cn]? = some (.chan 0 #[] false s s tm)
  cb : ∃ s tm, W.heap[F.cb]? = some (.chan 0 #[] false s s tm)
  j : F.J W
  hold : F.Hold W
  who : ∀ k, k < F.N + 1 → (κ k).quits = F.Q k
  nx : next ≤ F.M
  nd : ds.Nodup
  dlt : ∀ i ∈ ds, i < next
  m_is : m = (F.M - next) + (F.M - ds.length)
  zero : κ 0 = .mwalk ∨ κ 0 = .mpark
  oth : ∀ k, 1 ≤ k → κ k ≠ .mwalk ∧ κ k ≠ .mpark
  at_ : ∀ k, k < F.N + 1 → ∃ g, gs[k]? = some g ∧ At F m next ds (T k) (Own k) g W (κ k)
  fuel : ∀ k, 1 ≤ k → k < F.N + 1 → (κ k).quits = false → F.M - next ≤ (κ k).fuel
  task : ∀ k i, k < F.N + 1 → (κ k).task = some i → i < next ∧ i ∉ ds
  one : ∀ k k' i, k < F.N + 1 → k' < F.N + 1 → (κ k).task = some i → (κ k').task = some i → k = k'
  all : ∀ i, i < next → i ∉ ds → ∃ k, k < F.N + 1 ∧ (κ k).task = some i
  idle : κ 0 = .mpark → (∀ k i f, k < F.N + 1 → κ k ≠ .parkS i f) ∧ (next < F.M → ∀ k f, k < F.N + 1 → κ k ≠ .parkR f)
theorem FarmAt.act {F : Farm} {gs : Array Goroutine} {W : World} {t : Trace} {κ : Nat → KTag} {T : Nat → WT} {Own : Nat → Nat → Prop} {m next : Nat} {ds : List Nat} (h : FarmAt F gs W t κ T Own m next ds) {k : Nat} (hk : k < F.N + 1) (nq : (κ k).quits = false) : F.A k := ⟨hk, by rw [← h.who k hk]; exact nq⟩
def FarmAt.count (N : Nat) (κ : Nat → KTag) (m : Nat) : Nat := m * (N + 2) + sumTo (N + 1) fun k => (κ k).up
theorem evG_norel {O S : Nat → Prop} {e : Event} (h : EvG O S e) : NR (MemAct.ofEvent e) := by
  intro a
  obtain ⟨loc, wr, sy⟩ := e
  cases loc with
  | cell b => exact fun q => by cases q
  | obj r =>
    have hs : sy = false := h.1
    subst hs
    cases wr <;> exact fun q => by cases q
  | mark m =>
    cases m with
    | noRoom => exact fun q => by cases q
    | extern f => exact fun q => by cases q
    | _ => exact h.elim
  | output => exact h.elim
  | goroutines => exact h.elim
theorem up_le (k : KTag) : k.up ≤ 1 := by cases k <;> simp [KTag.up]
section inv
variable {F : Farm} {gs : Array Goroutine} {W : World} {t : Trace} {κ : Nat → KTag} {T : Nat → WT} {Own : Nat → Nat → Prop} {m next : Nat} {ds : List Nat}
theorem At.status {O : Nat → Prop} {T : WT} {g : Goroutine} {k : KTag} (hj : F.J W) (hC : ∀ ds O g W, F.Close ds O g W → g.status = .running) (h : At F m next ds T O g W k) : (k.up = 1 → g.status = .running) ∧ (k.parks = true → g.status = .blocked) ∧ (k.quits = true → g.status = .running ∨ g.status = .finished) := by
  have walk : ∀ {main : Bool} {S : Stp}, (∀ O g W, S O g W → g.status = .running) → WalksJ F.P main F.J F.Sh S T O g W → g.status = .running := by
    intro main S hs hw
    cases T with
    | stop => exact hs _ _ _ (hw W (RelyJ.refl _ _ hj))
    | step f => exact hw.1
  cases k with
  | quit q => exact ⟨fun e => (by cases e), fun e => (by cases e), fun _ => h.2.choose_spec.status⟩
  | walkR f => exact ⟨fun _ => walk (fun O g W q => (KRecv.iff.1 q).1) h, fun e => (by cases e), fun e => (by cases e)⟩
  | walkS i f => exact ⟨fun _ => walk (fun O g W q => q.1) h, fun e => (by cases e), fun e => (by cases e)⟩
  | mwalk =>
    refine ⟨fun _ => walk (fun O g W q => ?_) h, fun e => (by cases e), fun e => (by cases e)⟩
    cases m with
    | zero => exact hC _ _ _ _ q
    | succ m => exact q.1
  | parkR f => exact ⟨fun e => (by cases e), fun _ => (by obtain ⟨g₂, z, sh, rfl, _⟩ := h; rfl), fun e => (by cases e)⟩
  | parkS i f => exact ⟨fun e => (by cases e), fun _ => (by obtain ⟨g₂, v, z, sh, X, rfl, _⟩ := h; rfl), fun e => (by cases e)⟩
  | mpark => exact ⟨fun e => (by cases e), fun _ => (by obtain ⟨g₂, cs, sh, m', rfl, _⟩ := h; rfl), fun e => (by cases e)⟩
theorem At.again {O : Nat → Prop} {T : WT} {g a a' : Goroutine} {k : KTag} (hj : F.J W) (hC : ∀ ds O g W, F.Close ds O g W → g.status = .running) (h : At F m next ds T O g W k) {W' : World} (hn : ∃ s tm, W'.heap[F.cn]? = some (.chan 0 #[] false s s tm)) (hb : ∃ s tm, W'.heap[F.cb]? = some (.chan 0 #[] false s s tm)) : woken F.P a a' W' g = g := by
  obtain ⟨sn, tn, hn⟩ := hn
  obtain ⟨sb, tb, hb⟩ := hb
  have run : g.status = .running → woken F.P a a' W' g = g := fun q => by
    unfold woken
    split
    · exact again_running _ (.inl q)
    · rfl
  have st := h.status hj hC
  cases k with
  | quit q => exact woken_quitsD h.2.choose_spec
  | walkR f => exact run (st.1 rfl)
  | walkS i f => exact run (st.1 rfl)
  | mwalk => exact run (st.1 rfl)
  | parkR f =>
    obtain ⟨g₂, z, sh, rfl, _⟩ := h
    exact woken_recv_open _ _ hn
  | parkS i f =>
    obtain ⟨g₂, v, z, sh, X, rfl, _⟩ := h
    exact woken_send_open _ _ hb
  | mpark =>
    obtain ⟨g₂, cs, sh, m', rfl, _, ks, kr, hc, _⟩ := h
    have ag : (parked g₂ cs sh).again W' = parked g₂ cs sh := by
      obtain ⟨hne, h1, h2, hsz, ⟨z, hr⟩, hs1, hs2⟩ := hc
      have all : cs.any (fun c => match c.chan with | .chan (some r) => (W'.heap[r]? matches some (.chan _ _ true ..)) | _ => false) = false := by
        rw [Array.any_eq_false]
        intro k hk
        have : k = ks ∨ k = kr := by omega
        rcases this with rfl | rfl
        · by_cases hn' : next < F.M
          · obtain ⟨z', e⟩ := hs1 hn'
            have e' : cs[k] = scase F.cn (F.num next) z' := Option.some.inj ((Array.getElem?_eq_getElem hk).symm.trans e)
            rw [e']
            simp [scase, hn]
          · obtain ⟨cc, e, ec⟩ := hs2 hn'
            have e' : cs[k] = cc := Option.some.inj ((Array.getElem?_eq_getElem hk).symm.trans e)
            rw [e', ec]
            simp
        · have e' : cs[k] = rcase F.cb z := Option.some.inj ((Array.getElem?_eq_getElem hk).symm.trans hr)
          rw [e']
          simp [rcase, hb]
      unfold Goroutine.again
      simp only [parked]
      rw [if_neg (by rw [Bool.not_eq_true]; exact all)]
    unfold woken
    split
    · exact ag
    · rfl
theorem get_mapset (f : Goroutine → Goroutine) (i : Nat) (x : Goroutine) (k : Nat) (h : k ≠ i) : ((gs.map f).setIfInBounds i x)[k]? = (gs[k]?).map f := by
  rw [Array.getElem?_setIfInBounds_ne fun e => h e.symm, Array.getElem?_map]
theorem get_mapset_same (f : Goroutine → Goroutine) (i : Nat) (x : Goroutine) (h : i < gs.size) : ((gs.map f).setIfInBounds i x)[i]? = some x := Array.getElem?_setIfInBounds_self_of_lt (by simpa using h)
theorem FarmAt.ownStep (K : F.Known) (hC : ∀ ds O g W, F.Close ds O g W → g.status = .running) (h : FarmAt F gs W t κ T Own m next ds) {k : Nat} (hk : k < F.N + 1) {g : Goroutine} (hg : gs[k]? = some g) {S : Stp} {f : World → WT} (hT : T k = .step f) (hw : WalksJ F.P (k == 0) F.J F.Sh S (T k) (Own k) g W) (nq : (κ k).quits = false)
    (back : ∀ T' O' g' W', WalksJ F.P (k == 0) F.J F.Sh S T' O' g' W' → At F m next ds T' O' g' W' (κ k)) (d : Nat) (sl : Option (Nat × Nat)) :
    ∃ gs' W' ops T', runT F.P (crowd gs (W.at d) sl) k = (.next (crowd gs' W' sl), ops) ∧ LtN (F.N + 1) T' T ∧ ∃ Own', FarmAt F gs' W' (t ++ ops) κ T' Own' m next ds := by
  rw [hT] at hw
  obtain ⟨O', g', W', es, t1, hsub, hrun, hw', hO', hD, hR, hSy, _, _, _, hev, _⟩ := crowd_ownJ (sl := sl) h.own K.jst h.j (h.act hk nq) hg hw d
  have cn' : ∃ s tm, W'.heap[F.cn]? = some (.chan 0 #[] false s s tm) := h.cn.imp fun s => .imp fun tm q => (hSy _ K.syn).trans q
  have cb' : ∃ s tm, W'.heap[F.cb]? = some (.chan 0 #[] false s s tm) := h.cb.imp fun s => .imp fun tm q => (hSy _ K.syb).trans q
  refine ⟨_, W', _, upd T k t1, hrun, ⟨k, hk, by rw [upd_same, hT]; exact hsub, fun j hj => upd_ne T t1 hj⟩, ownUpd Own k O', ?_⟩
  exact { size := by simp [h.size]
          own := hO'
          told := h.told.own (fun op hop _ e => by
            obtain ⟨ev, he, rfl⟩ := Go.Conc.mem_ofEvents hop
            exact evG_norel (hev ev he) _ e) (fun op hop => by obtain ⟨_, _, rfl⟩ := Go.Conc.mem_ofEvents hop; rfl) hk (by rw [(h.act hk nq).2]; exact fun z => by cases z) id
          deaf := fun i hi hq => by rw [hD]; exact h.deaf i hi hq
          left := fun l q gl hl e hgl => by
            rw [hD]
            have lk : l ≠ k := fun z => by rw [← z, e] at nq; cases nq
            rw [get_mapset _ _ _ _ lk] at hgl
            obtain ⟨gi, hgi, ha⟩ := h.at_ l hl
            rw [hgi] at hgl
            have : gl = gi := (Option.some.inj hgl).symm.trans (ha.again h.j hC cn' cb')
            rw [this]
            exact h.left l q gi hl e hgi
          crew := h.crew
          cn := cn', cb := cb'
          j := K.jst _ _ hSy h.j
          hold := K.hst _ _ (fun b hb _ _ => hSy b hb) h.hold, who := h.who
          nx := h.nx, nd := h.nd, dlt := h.dlt, m_is := h.m_is, zero := h.zero, oth := h.oth
          at_ := fun i hi => by
            by_cases e : i = k
            · subst e
              refine ⟨g', get_mapset_same _ _ _ (by rw [h.size]; exact hi), ?_⟩
              rw [upd_same, ownUpd_same]
              exact back _ _ _ _ hw'
            · obtain ⟨gi, hgi, ha⟩ := h.at_ i hi
              refine ⟨gi, ?_, ?_⟩
              · rw [get_mapset _ _ _ _ e, hgi]
                exact congrArg some (ha.again h.j hC cn' cb')
              · rw [upd_ne T t1 e, ownUpd_other Own O' e]
                exact ha.rely K (hR i e)
          fuel := h.fuel, task := h.task, one := h.one, all := h.all, idle := h.idle }
structure Met (gs gs' : Array Goroutine) (j : Nat) (x y : Goroutine) : Prop where
  size : gs'.size = gs.size
  zero : gs'[0]? = some x
  one : gs'[j]? = some y
  oth : ∀ k, k ≠ 0 → k ≠ j → gs'[k]? = gs[k]?
theorem met_set {j : Nat} {x y : Goroutine} (hj : j ≠ 0) (h0 : 0 < gs.size) (hjs : j < gs.size) : Met gs ((gs.setIfInBounds j y).setIfInBounds 0 x) j x y :=
  ⟨by simp, Array.getElem?_setIfInBounds_self_of_lt (by simpa using h0), by rw [Array.getElem?_setIfInBounds_ne hj.symm]; exact Array.getElem?_setIfInBounds_self_of_lt hjs, fun k k0 kj => by rw [Array.getElem?_setIfInBounds_ne k0.symm, Array.getElem?_setIfInBounds_ne kj.symm]⟩
theorem met_set' {j : Nat} {x y : Goroutine} (hj : j ≠ 0) (h0 : 0 < gs.size) (hjs : j < gs.size) : Met gs ((gs.setIfInBounds 0 x).setIfInBounds j y) j x y :=
  ⟨by simp, by rw [Array.getElem?_setIfInBounds_ne hj]; exact Array.getElem?_setIfInBounds_self_of_lt h0, Array.getElem?_setIfInBounds_self_of_lt (by simpa using hjs), fun k k0 kj => by rw [Array.getElem?_setIfInBounds_ne kj.symm, Array.getElem?_setIfInBounds_ne k0.symm]⟩
theorem met_world (K : F.Known) (h : FarmAt F gs W t κ T Own m next ds) {c s : Nat} {tm : Bool} (hc : c = F.cn ∨ c = F.cb) (hs : W.heap[c]? = some (.chan 0 #[] false s s tm)) (d : Nat) :
    SyOnly F.Sy W ((W.at d).setChan c 0 #[] false (s + 1) (s + 1) tm) ∧
      (∃ s' tm', ((W.at d).setChan c 0 #[] false (s + 1) (s + 1) tm).heap[F.cn]? = some (.chan 0 #[] false s' s' tm')) ∧ (∃ s' tm', ((W.at d).setChan c 0 #[] false (s + 1) (s + 1) tm).heap[F.cb]? = some (.chan 0 #[] false s' s' tm')) ∧ F.J ((W.at d).setChan c 0 #[] false (s + 1) (s + 1) tm) := by
  have hcs : F.Sy c := hc.elim (fun e => e ▸ K.syn) fun e => e ▸ K.syb
  have lt : c < (W.at d).heap.size := (Array.getElem?_eq_some_iff.1 hs).1
  have at_c : ((W.at d).setChan c 0 #[] false (s + 1) (s + 1) tm).heap[c]? = some (.chan 0 #[] false (s + 1) (s + 1) tm) := Array.getElem?_setIfInBounds_self_of_lt lt
  have at_o : ∀ b, b ≠ c → ((W.at d).setChan c 0 #[] false (s + 1) (s + 1) tm).heap[b]? = W.heap[b]? := fun b hb => Array.getElem?_setIfInBounds_ne hb.symm
  refine ⟨(SyOnly.at F.Sy W d).trans (SyOnly.setChan hcs), ?_, ?_, K.jch (W.at d) c s (s + 1) tm hc hs (K.jst W (W.at d) (fun _ _ => rfl) h.j)⟩
  · by_cases e : F.cn = c
    · rw [e]; exact ⟨_, _, at_c⟩
    · rw [at_o _ e]; exact h.cn
  · by_cases e : F.cb = c
    · rw [e]; exact ⟨_, _, at_c⟩
    · rw [at_o _ e]; exact h.cb
end inv
end Go.Proofs.YtmbfdhekplnoaaaDoor
