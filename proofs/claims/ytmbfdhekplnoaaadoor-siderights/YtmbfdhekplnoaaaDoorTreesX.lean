/-
  The lone world of a call in company: of all blocks some, that are never written, some of them marked; what is in no relation is junk.
  Calls in company: into a function's own code, and by a lone contract.
  How far a walk is from its stop: a tree; and of many goroutines, one of which takes a step.
-/
import Derived.Test.YtmbfdhekplnoaaaDoorWalkWX
namespace Go.Proofs.YtmbfdhekplnoaaaDoor
open Go Go.Conc

theorem exists_junk (Fn : FnR) (ρ : Brel) : ∀ (n : Nat) (y : Value), SizeOf.sizeOf y < n → ∃ x, VR Fn ρ x y ∧ VR Fn ρ x x := by
  intro n
  induction n with
  | zero => intro y h; omega
  | succ n ih =>
    intro y hy
    have junk : jk y = true → ∃ x, VR Fn ρ x y ∧ VR Fn ρ x x := fun h => ⟨undef, .junk h, VR.undef⟩
    cases y with
    | bool b => exact ⟨_, .bool b, .bool b⟩
    | int k m => exact ⟨_, .int k m, .int k m⟩
    | float k b => exact junk rfl
    | complex k a b => exact junk rfl
    | string s => exact ⟨_, .string s, .string s⟩
    | pointer a => cases a with
      | none => exact ⟨_, .nilPtr, .nilPtr⟩
      | some a => exact junk rfl
    | slice a l c => cases a with
      | none => exact ⟨_, .nilSlice l c, .nilSlice l c⟩
      | some a => exact junk rfl
    | map a => cases a with
      | none => exact ⟨_, .nilMap, .nilMap⟩
      | some a => exact junk rfl
    | chan a => cases a with
      | none => exact ⟨_, .nilChan, .nilChan⟩
      | some a => exact junk rfl
    | func f a b => cases f with
      | method m => exact ⟨_, .mfunc m a b, .mfunc "" #[.nilIface] #[]⟩
      | _ => exact junk rfl
    | nilFunc => exact ⟨_, .nilFunc, .nilFunc⟩
    | iface t v => exact junk rfl
    | nilIface => exact ⟨_, .nilIface, .nilIface⟩
    | tuple vs => exact junk rfl
    | agg cs =>
      have sm : ∀ v ∈ cs, ∃ x, VR Fn ρ x v ∧ VR Fn ρ x x := fun v hv => ih v (by
        have h1 := Array.sizeOf_lt_of_mem hv
        have h2 : SizeOf.sizeOf (Value.agg cs) = 1 + SizeOf.sizeOf cs := by simp
        omega)
      have ex : ∃ g : Value → Value, ∀ v ∈ cs, VR Fn ρ (g v) v ∧ VR Fn ρ (g v) (g v) := by
        refine ⟨fun v => @dite _ (∃ x, VR Fn ρ x v ∧ VR Fn ρ x x) (Classical.propDecidable _) (fun h => Classical.choose h) (fun _ => undef), fun v hv => ?_⟩
        have h := sm v hv
        simp only [h, dite_true]
        exact Classical.choose_spec h
      obtain ⟨g, hg⟩ := ex
      refine ⟨.agg (cs.map g), VR.ag ⟨by simp, fun i x y hx hy => ?_⟩, VR.ag ⟨rfl, fun i x y hx hy => ?_⟩⟩
      · rw [Array.getElem?_map, hy] at hx
        cases hx
        exact (hg y (Array.mem_of_getElem? hy)).1
      · rw [hx] at hy
        cases hy
        rw [Array.getElem?_map] at hx
        obtain ⟨z, hz, rfl⟩ := Option.map_eq_some_iff.1 hx
        exact (hg z (Array.mem_of_getElem? hz)).2
section lv
variable {Fn : FnR} {S : List Nat}
noncomputable def lv (Fn : FnR) (S : List Nat) (v : Value) : Value :=
  @ite _ (VR Fn (IdS fun i => S.elem i = true) v v) (Classical.propDecidable _) v (Classical.choose (exists_junk Fn (IdS fun i => S.elem i = true) _ v (Nat.lt_succ_self _)))
theorem lv_vr (v : Value) : VR Fn (IdS fun i => S.elem i = true) (lv Fn S v) v := by
  unfold lv
  split
  · assumption
  · exact (Classical.choose_spec (exists_junk Fn (IdS fun i => S.elem i = true) _ v (Nat.lt_succ_self _))).1
theorem lv_self (v : Value) : VR Fn (IdS fun i => S.elem i = true) (lv Fn S v) (lv Fn S v) := by
  unfold lv
  split
  · assumption
  · exact (Classical.choose_spec (exists_junk Fn (IdS fun i => S.elem i = true) _ v (Nat.lt_succ_self _))).2
theorem lv_of {v : Value} (h : VR Fn (IdS fun i => S.elem i = true) v v) : lv Fn S v = v := by
  unfold lv
  rw [if_pos h]
end lv
noncomputable def mkOf (Fn : FnR) (F : Nat → Bool) (i n : Nat) : Nat × Nat := if F i then (@ite _ (n = 0 ∧ Fn.ro i) (Classical.propDecidable _) (1, 1) (0, n)) else (0, 0)
theorem mk_plain {Fn : FnR} {F : Nat → Bool} {i : Nat} (h : ¬ Fn.ro i) (n : Nat) : mkOf Fn F i n = if F i then (0, n) else (0, 0) := by
  unfold mkOf
  cases F i
  · rfl
  · rw [if_pos rfl, if_pos rfl, if_neg fun q => h q.2]
theorem mk_is {Fn : FnR} {F : Nat → Bool} {i : Nat} (h : F i = true) (n : Nat) : mkOf Fn F i n = (0, n) ∨ (n = 0 ∧ Fn.ro i ∧ mkOf Fn F i n = (1, 1)) := by
  unfold mkOf
  rw [if_pos h]
  split
  · rename_i q; exact .inr ⟨q.1, q.2, rfl⟩
  · exact .inl rfl
noncomputable def loneObj (Fn : FnR) (S : List Nat) (F : Nat → Bool) (i : Nat) (o : Obj) : Obj :=
  if S.elem i then (match o with | .cells c e _ => .cells (c.map (lv Fn S)) e (mkOf Fn F i c.size) | o => o) else .coro none
noncomputable def loneW (Fn : FnR) (W : World) (S : List Nat) (F : Nat → Bool) : World := { W with heap := W.heap.mapIdx (loneObj Fn S F) }
def cellsIn (W : World) (a : Nat) : Nat := match W.heap[a]? with | some (.cells c _ _) => c.size | _ => 0
section lone
variable {C : Ctx} {W : World} {S : List Nat} {F : Nat → Bool}
theorem lone_at {Fn : FnR} {i : Nat} {c : Array Value} {e : TypeId} {f : Nat × Nat} (hi : S.elem i = true) (h : W.heap[i]? = some (.cells c e f)) : (loneW Fn W S F).heap[i]? = some (.cells (c.map (lv Fn S)) e (mkOf Fn F i c.size)) := by
  show (W.heap.mapIdx (loneObj Fn S F))[i]? = _
  rw [Array.getElem?_mapIdx, h]
  show some (loneObj Fn S F i (.cells c e f)) = _
  unfold loneObj
  rw [if_pos hi]
theorem lone_size {Fn : FnR} : (loneW Fn W S F).heap.size = W.heap.size := by
  show (W.heap.mapIdx (loneObj Fn S F)).size = _
  simp
def Shared (G : Nat) (W : World) (S R : List Nat) : Prop := (∀ s, S.elem s = true → ∃ c e f, W.heap[s]? = some (.cells c e f) ∧ (f = (0, 0) ∨ R.elem s = true)) ∧ ∀ a, R.elem a = true → S.elem a = true ∧ G ≤ a
theorem cellsIn_at {c : Array Value} {e : TypeId} {f : Nat × Nat} {a : Nat} (h : W.heap[a]? = some (.cells c e f)) : cellsIn W a = c.size := by unfold cellsIn; rw [h]
theorem vrs_lone {Fn : FnR} (c : Array Value) : VRs Fn (IdS fun i => S.elem i = true) (c.map (lv Fn S)) c := ⟨by simp, fun i x y hx hy => by
  rw [Array.getElem?_map, hy] at hx
  cases hx
  exact lv_vr y⟩
theorem vrs_self {Fn : FnR} (c : Array Value) : VRs Fn (IdS fun i => S.elem i = true) (c.map (lv Fn S)) (c.map (lv Fn S)) := ⟨rfl, fun i x y hx hy => by
  rw [hx] at hy
  cases hy
  rw [Array.getElem?_map] at hx
  obtain ⟨z, hz, rfl⟩ := Option.map_eq_some_iff.1 hx
  exact lv_self z⟩
structure Marked (C : Ctx) (W : World) (S R : List Nat) (F : Nat → Bool) : Prop where
  fz : ∀ a, C.Fz a ↔ (F a = true ∧ S.elem a = true)
  ro : ∀ a, C.Fn.ro a ↔ R.elem a = true
  rf : ∀ a, R.elem a = true → F a = true
  n : ∀ a, C.fzn a = cellsIn W a
theorem Marked.fzAt {R : List Nat} (hM : Marked C W S R F) (hS : Shared C.G W S R) {a : Nat} (ha : C.Fz a) : ∃ c e f, (loneW C.Fn W S F).heap[a]? = some (.cells c e f) ∧ (∀ k, k < c.size → f.1 ≤ k ∧ k < f.2) ∧ c.size = C.fzn a := by
  obtain ⟨hF, ha⟩ := (hM.fz a).1 ha
  obtain ⟨c, e, f, h1, _⟩ := hS.1 a ha
  refine ⟨c.map (lv C.Fn S), e, _, lone_at ha h1, fun k hk => ?_, by rw [hM.n, cellsIn_at h1]; simp⟩
  rw [Array.size_map] at hk
  rcases mk_is (Fn := C.Fn) hF c.size with z | ⟨z, _⟩
  · rw [z]; exact ⟨Nat.zero_le _, hk⟩
  · omega
theorem Marked.frAt {R : List Nat} (hM : Marked C W S R F) (hS : Shared C.G W S R) {a b : Nat} (r : IdS (fun i => S.elem i = true) a b) (c : Array Value) (e : TypeId) (f : Nat × Nat) (q : (loneW C.Fn W S F).heap[a]? = some (.cells c e f)) :
    f = (0, 0) ∨ (C.Fz a ∧ c.size = C.fzn a ∧ (f = (0, c.size) ∨ f = (1, 1))) := by
  have ha := r.2
  obtain ⟨c', e', f', h1, _⟩ := hS.1 a ha
  have := lone_at (Fn := C.Fn) (F := F) ha h1
  rw [q] at this
  obtain ⟨g1, g2, g3⟩ := Obj.cells.inj (Option.some.inj this)
  have sz : c.size = c'.size := by rw [g1]; simp
  cases hF : F a with
  | false => left; rw [g3]; unfold mkOf; rw [hF]; rfl
  | true =>
    refine .inr ⟨(hM.fz a).2 ⟨hF, ha⟩, by rw [hM.n, cellsIn_at h1]; exact sz, ?_⟩
    rw [g3, sz]
    exact (mk_is hF _).imp id fun z => z.2.2
theorem wr_lone {R : List Nat} (hS : Shared C.G W S R) (hM : Marked C W S R F) (hs : C.self = false) (hG : C.G ≤ W.heap.size) (τ : Nat → Question → Nat) (d : Nat) (hτ : W.tape = τ) (hd : W.drawn = d) :
    WR C (IdS fun i => S.elem i = true) (World.tp (loneW C.Fn W S F) τ d) W := by
  refine ⟨⟨fun h k => h.1.symm.trans k.1, fun h k => h.1.trans k.1.symm⟩, ?_, hτ, hd, fun a ha => hM.fzAt hS ha, fun {a b} r => hM.frAt hS r, ?_, ?_, ?_, hG⟩
  · rintro a b ⟨rfl, ha⟩
    obtain ⟨c, e, f, h1, h2⟩ := hS.1 a ha
    refine ⟨_, _, lone_at ha h1, h1, .cells e (vrs_lone c) fun q => ?_⟩
    rcases h2 with h2 | h2
    · exact h2
    · rcases mk_is (Fn := C.Fn) (hM.rf a h2) c.size with z | ⟨_, _, z⟩
      · unfold mkOf at q z
        rw [if_pos (hM.rf a h2)] at q z
        split at z
        · cases z
        · rename_i y
          rw [if_neg y] at q
          exact absurd ⟨(Prod.mk.inj q).2, (hM.ro a).2 h2⟩ y
      · rw [z] at q; cases q
  · rintro a b ⟨rfl, ha⟩ _ d e g q
    refine ⟨fun z => (by rw [hs] at z; cases z), fun _ => ?_⟩
    obtain ⟨c', e', f', h1, h2⟩ := hS.1 a ha
    rw [h1] at q
    obtain ⟨_, _, g3⟩ := Obj.cells.inj (Option.some.inj q)
    rw [← g3]
    exact h2.imp id (hM.ro a).2
  · rintro a b ⟨rfl, _⟩ _; rfl
  · show C.G ≤ (loneW C.Fn W S F).heap.size
    rw [lone_size]; exact hG
theorem wr_self {R : List Nat} (hS : Shared C.G W S R) (hM : Marked C W S R F) (hs : C.self = true) (hG : C.G ≤ W.heap.size) : WR C (IdS fun i => S.elem i = true) (loneW C.Fn W S F) (loneW C.Fn W S F) := by
  have hG' : C.G ≤ (loneW C.Fn W S F).heap.size := by rw [lone_size]; exact hG
  refine ⟨⟨fun h k => h.1.symm.trans k.1, fun h k => h.1.trans k.1.symm⟩, ?_, rfl, rfl, fun a ha => hM.fzAt hS ha, fun {a b} r => hM.frAt hS r, ?_, ?_, hG', hG'⟩
  · rintro a b ⟨rfl, ha⟩
    obtain ⟨c, e, f, h1, _⟩ := hS.1 a ha
    exact ⟨_, _, lone_at ha h1, lone_at ha h1, .cells e (vrs_self c) id⟩
  · rintro a b ⟨rfl, ha⟩ hz d e g q
    refine ⟨fun _ => ?_, fun z => (by rw [hs] at z; cases z)⟩
    obtain ⟨hF, ha⟩ := (hM.fz a).1 hz
    obtain ⟨c', e', f', h1, _⟩ := hS.1 a ha
    have := lone_at (Fn := C.Fn) (F := F) ha h1
    rw [q] at this
    rw [(Obj.cells.inj (Option.some.inj this)).2.2, hM.n, cellsIn_at h1]
    exact (mk_is hF _).imp id fun z => z.2.2
  · rintro a b ⟨rfl, _⟩ _; rfl
theorem lone_cell {Fn : FnR} {a : Addr} {v : Value} (hS : S.elem a.block = true) (h : W.cell? a = some v) (hv : VR Fn (IdS fun i => S.elem i = true) v v) : (loneW Fn W S F).cell? a = some v := by
  unfold World.cell? at h ⊢
  cases hb : W.heap[a.block]? with
  | none => rw [hb] at h; cases h
  | some o =>
    rw [hb] at h
    cases o with
    | cells c e f =>
      rw [lone_at hS hb]
      simp only at h ⊢
      split at h
      · cases h
      · rename_i q
        rw [if_neg q, Array.getElem?_map, h]
        show some (lv Fn S v) = some v
        rw [lv_of hv]
    | _ => cases h
end lone
end Go.Proofs.YtmbfdhekplnoaaaDoor

namespace Go.Proofs.YtmbfdhekplnoaaaDoor
open Go Go.Conc

def CallW (P : Program) (main : Bool) (Sh : Nat → Prop) (Stop : (Nat → Prop) → Goroutine → World → Prop) (f : FuncId) (args : Array Value) (O : Nat → Prop) (W : World) (Post : (Nat → Prop) → Value → World → Prop) : Prop :=
  ∀ (c : Frame) (cs : List Frame), (∀ O' v W', Post O' v W' → Walks P main Sh Stop O' (Conc.G (c.finish v) cs) W') → Walks P main Sh Stop O (Conc.G (Frame.enter P f args .normal) (c :: cs)) W
section calls
variable {P : Program} {main : Bool} {Sh : Nat → Prop} {Stop : (Nat → Prop) → Goroutine → World → Prop} {fn : FuncId} {Q : PostW} {a : Act} {O : Nat → Prop} {w : World}
theorem CallW.mono {f : FuncId} {args : Array Value} {Post Post' : (Nat → Prop) → Value → World → Prop} (h : CallW P main Sh Stop f args O w Post) (hp : ∀ O v W, Post O v W → Post' O v W) : CallW P main Sh Stop f args O w Post' :=
  fun c cs k => h c cs fun O' v W' q => k O' v W' (hp O' v W' q)
theorem Walks.bind {Stop1 Stop2 : (Nat → Prop) → Goroutine → World → Prop} {g : Goroutine} {W : World} (h : Walks P main Sh Stop1 O g W) (k : ∀ O g W, Stop1 O g W → Walks P main Sh Stop2 O g W) : Walks P main Sh Stop2 O g W := by
  induction h with
  | @stop O g W h => exact k O g W (h W (Rely.refl _ _ _))
  | step hs O' g' W' es h1 _ ih => exact .step hs O' g' W' es h1 ih
theorem Done.rely {ι : Type} {K : Job ι} {i : ι} {N : Nat → Prop} {v : Value} {W W1 : World} (h : Done K i N v W) (hr : Rely N K.S W W1) : Done K i N v W1 := by
  obtain ⟨u, x, T, D, ρ, h1, h2, hw, h4, h5⟩ := h
  refine ⟨u, x, T, D, ρ, h1, h2, ?_, h4, h5⟩
  refine ⟨hw.one, fun {a c} r => ?_, rfl, rfl, hw.fz, hw.fr, fun {a c} r ha d e g q => hw.fro r ha d e g ?_, hw.low, hw.gw, Nat.le_trans hw.gW hr.size⟩
  rotate_left
  · rw [hr.keep c (hw.lt r).2 ((h5 a c r).imp id fun q => q.2)] at q
    exact q
  obtain ⟨o, o', g1, g2, g3⟩ := hw.obj r
  have lt := (Array.getElem?_eq_some_iff.1 g2).1
  refine ⟨o, o', g1, ?_, g3⟩
  rw [hr.keep c lt ((h5 a c r).imp id fun q => q.2)]
  exact g2
theorem restW {ι : Type} {K : Job ι} (hK : K.Known) (i0 : ι) {b : Frame} (ha : ∀ i, FR (K.C i) K.Gl (IdS K.S) K.a b) (hs : ∀ i, FR (K.D i) K.Gl (IdS K.S) K.a K.a)
    (hw : ∀ i, WR (K.C i) (IdS K.S) (World.tp (K.w i) w.tape w.drawn) w) (hv : ∀ i, WR (K.D i) (IdS K.S) (K.w i) (K.w i)) (hS : ∀ b, K.S b → Sh b ∨ O b) (hO : ∀ b, O b ∨ Sh b → b < w.heap.size) (c : Frame) (cs : List Frame)
    (hpost : ∀ N v W, (∀ b, N b → w.heap.size ≤ b ∧ b < W.heap.size) → Rely O Sh w W → (∀ i, Done K i N v W) → Walks K.P main Sh Stop (fun b => N b ∨ O b) (Conc.G (c.finish v) cs) W) : Walks K.P main Sh Stop O (Conc.G b (c :: cs)) w := by
  have h := walks_any hK i0 main c cs (fun N g W => ∃ v, g = Conc.G (c.finish v) cs ∧ (∀ b, N b → b < W.heap.size) ∧ ∀ i, Done K i N v W) ha hs hw hv fun N v W hN hd =>
    .stop fun W1 hr => ⟨v, rfl, fun b q => Nat.lt_of_lt_of_le (hN b q) hr.size, fun i => (hd i).rely hr⟩
  have h2 := Walks.frame (Sh := Sh) (W0 := w) (Stop := fun N g W => ∃ N' v, g = Conc.G (c.finish v) cs ∧ N = (fun b => N' b ∨ O b) ∧ (∀ b, N' b → w.heap.size ≤ b ∧ b < W.heap.size) ∧ Rely O Sh w W ∧ ∀ i, Done K i N' v W) O hS (fun N g W hl hr ⟨v, h1, h2, h3⟩ => ⟨N, v, h1, rfl, fun b z => ⟨hl b z, h2 b z⟩, hr, h3⟩) h (Rely.refl _ _ _) hO (fun _ q => q.elim)
  have h3 : Walks K.P main Sh Stop (fun b => False ∨ O b) (Conc.G b (c :: cs)) w := by
    refine Walks.bind h2 fun N g W q => ?_
    obtain ⟨N', v, rfl, rfl, q1, qr, q2⟩ := q
    exact hpost N' v W q1 qr q2
  have e : (fun b => False ∨ O b) = O := funext fun b => propext ⟨fun q => q.elim (fun z => z.elim) id, .inr⟩
  rw [e] at h3
  exact h3
theorem callW_lone {ι : Type} {K : Job ι} (hK : K.Known) (i0 : ι) {f : FuncId} {args args' : Array Value} (hf : K.Fn f) (hstart : K.a = Frame.enter K.P f args .normal) (ha : VRs K.Fn (IdS K.S) args args') (hs : VRs K.Fn (IdS K.S) args args)
    (hw : ∀ i, WR (K.C i) (IdS K.S) (World.tp (K.w i) w.tape w.drawn) w) (hv : ∀ i, WR (K.D i) (IdS K.S) (K.w i) (K.w i)) (hS : ∀ b, K.S b → Sh b ∨ O b) (hO : ∀ b, O b ∨ Sh b → b < w.heap.size)
    {Post : (Nat → Prop) → Value → World → Prop} (hpost : ∀ N v W, (∀ b, N b → w.heap.size ≤ b ∧ b < W.heap.size) → Rely O Sh w W → (∀ i, Done K i N v W) → Post (fun b => N b ∨ O b) v W) : CallW K.P main Sh Stop f args' O w Post :=
  fun c cs hc => restW hK i0 (fun i => by rw [hstart]; exact enter_fr (C := K.C i) (hK.hB i) (hK.hC i) hf ha) (fun i => by rw [hstart]; exact enter_fr (C := K.D i) (hK.hB' i) (hK.hC' i) hf hs) hw hv hS hO c cs fun N v W a b d => hc _ v W (hpost N v W a b d)
end calls
end Go.Proofs.YtmbfdhekplnoaaaDoor

namespace Go.Proofs.YtmbfdhekplnoaaaDoor
open Go Go.Conc

inductive WT : Type
  | stop : WT
  | step (f : World → WT) : WT
def WT.sub (t u : WT) : Prop := ∃ f W, u = .step f ∧ t = f W
theorem WT.acc : ∀ t : WT, Acc WT.sub t
  | .stop => ⟨_, fun _ ⟨_, _, e, _⟩ => by cases e⟩
  | .step f => ⟨_, fun _ ⟨_, W, e, q⟩ => by cases e; subst q; exact WT.acc (f W)⟩
def WalksT (P : Program) (main : Bool) (Sh : Nat → Prop) (Stop : (Nat → Prop) → Goroutine → World → Prop) : WT → (Nat → Prop) → Goroutine → World → Prop
  | .stop, O, g, W => ∀ W1, Rely O Sh W W1 → Stop O g W1
  | .step f, O, g, W => g.status = .running ∧ ∀ W1, Rely O Sh W W1 → ∃ O' g' W' es, stepG P main g W1 = .go g' W' es ∧ Guar O O' Sh W1 W' es ∧ WalksT P main Sh Stop (f W1) O' g' W'
section trees
variable {P : Program} {main : Bool} {Sh : Nat → Prop} {Stop : (Nat → Prop) → Goroutine → World → Prop} {O : Nat → Prop} {g : Goroutine} {W : World}
theorem WalksT.of (h : Walks P main Sh Stop O g W) : ∃ t, WalksT P main Sh Stop t O g W := by
  induction h with
  | stop h => exact ⟨.stop, h⟩
  | @step O g W hs O' g' W' es h1 _ ih =>
    have ih' : ∀ W1, ∃ t, Rely O Sh W W1 → WalksT P main Sh Stop t (O' W1) (g' W1) (W' W1) := fun W1 => by
      by_cases hr : Rely O Sh W W1
      · obtain ⟨t, ht⟩ := ih W1 hr
        exact ⟨t, fun _ => ht⟩
      · exact ⟨.stop, fun q => absurd q hr⟩
    refine ⟨.step fun W1 => Classical.choose (ih' W1), hs, fun W1 hr => ⟨O' W1, g' W1, W' W1, es W1, (h1 W1 hr).1, (h1 W1 hr).2, Classical.choose_spec (ih' W1) hr⟩⟩
theorem WalksT.rely {t : WT} {W1 : World} (h : WalksT P main Sh Stop t O g W) (hr : Rely O Sh W W1) : WalksT P main Sh Stop t O g W1 := by
  cases t with
  | stop => exact fun W2 q => h W2 (hr.trans q)
  | step f => exact ⟨h.1, fun W2 q => h.2 W2 (hr.trans q)⟩
end trees
def LtN (n : Nat) (T' T : Nat → WT) : Prop := ∃ i, i < n ∧ WT.sub (T' i) (T i) ∧ ∀ j, j ≠ i → T' j = T j
theorem ltN_wf : ∀ n, WellFounded (LtN n)
  | 0 => ⟨fun _ => ⟨_, fun _ ⟨_, h, _⟩ => absurd h (Nat.not_lt_zero _)⟩⟩
  | n + 1 => by
    have ih := ltN_wf n
    have key : ∀ t : WT, Acc WT.sub t → ∀ T : Nat → WT, T n = t → Acc (LtN (n + 1)) T := by
      intro t ht
      induction ht with
      | intro t _ iht =>
        intro T
        induction ih.apply T with
        | intro T _ ihT =>
          intro hTn
          refine ⟨_, fun T' ⟨i, hi, hs, he⟩ => ?_⟩
          by_cases hin : i = n
          · subst hin
            rw [hTn] at hs
            exact iht (T' i) hs T' rfl
          · have hn : T' n = t := by rw [he n (fun q => hin q.symm)]; exact hTn
            exact ihT T' ⟨i, by omega, hs, he⟩ hn
    exact ⟨fun T => key (T n) (WT.acc _) T rfl⟩
def LtC (n : Nat) : (Nat × (Nat → WT)) → (Nat × (Nat → WT)) → Prop := Prod.Lex (· < ·) (LtN n)
theorem ltC_wf (n : Nat) : WellFounded (LtC n) := (Prod.lex ⟨_, Nat.lt_wfRel.wf⟩ ⟨_, ltN_wf n⟩).wf
end Go.Proofs.YtmbfdhekplnoaaaDoor
