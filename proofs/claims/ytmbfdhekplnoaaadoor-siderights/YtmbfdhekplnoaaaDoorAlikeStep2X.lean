/-
  What one operation does in the one world it does in the other that is alike: all operations that are borne.
  What a goroutine's own step does in the one world it does in the other that is alike.
  What a goroutine's own step does in the one world it does in the other that is alike: operations, draws, returns.
-/
import Derived.Test.YtmbfdhekplnoaaaDoorAlikeMethX
namespace Go.Proofs.YtmbfdhekplnoaaaDoor
open Go

section exec
variable {C : Ctx} {ρ : Brel} {A : Prop}
theorem Sim.unary (op : UnOp) {x y : Value} (h : VR C.Fn ρ x y) : Sim C (fun ρ => VR C.Fn ρ) ρ (Op.unary op x) (Op.unary op y) := by
  cases h <;> cases op <;> first
    | exact Sim.pure (.int _ _)
    | exact Sim.pure (.bool _)
    | exact Sim.dead (Dead.unsupported _)
    | exact Sim.dead (Dead.stuck _)
def IntConv (P : Program) (a b : TypeId) : Prop := (∃ k, P.underlying a = some (.int k)) ∧ ∃ k, P.underlying b = some (.int k)
theorem Sim.convert {a b : TypeId} (hc : IntConv C.P a b) {x y : Value} (h : VR C.Fn ρ x y) : Sim C (fun ρ => VR C.Fn ρ) ρ (Go.convert a b x) (Go.convert a b y) := by
  obtain ⟨⟨k1, h1⟩, k2, h2⟩ := hc
  refine Sim.bindK (k_underlying a) fun d1 i1 => Sim.bindK (k_underlying b) fun d2 i2 => ?_
  have e1 := is_underlying i1
  have e2 := is_underlying i2
  rw [h1] at e1
  rw [h2] at e2
  cases e1; cases e2
  cases h <;> first | exact Sim.pure (.int _ _) | exact Sim.dead (Dead.unsupported _)
theorem Sim.len (ts : Array TypeId) (t : TypeId) {xs ys : Array Value} (h : VRs C.Fn ρ xs ys) : Sim C (fun ρ => VR C.Fn ρ) ρ (Builtin.len_ ts t xs) (Builtin.len_ ts t ys) := by
  unfold Builtin.len_
  have h0 := OV.at h 0
  cases ts[0]? with
  | none => exact Sim.dead (Dead.stuck _)
  | some u =>
    cases hx : xs[0]? with
    | none => exact Sim.dead (Dead.stuck _)
    | some x =>
      rw [hx] at h0
      cases hy : ys[0]? with
      | none => rw [hy] at h0; exact h0.elim
      | some y =>
        rw [hy] at h0
        dsimp only
        refine Sim.bindK (k_underlying u) fun d _ => ?_
        have h0 : VR C.Fn ρ x y := h0
        cases d with
        | pointer arr =>
          dsimp only
          refine Sim.bindK (k_underlying arr) fun d2 _ => ?_
          cases d2 <;> first | exact Sim.pure (int_vr _) | exact Sim.dead (Dead.stuck _)
        | map k e =>
          cases h0 with
          | mp hr =>
            dsimp only
            refine Sim.bind (Sim.getObj hr) fun _ o o' _ ho => ?_
            cases ho with
            | map hm n => dsimp only; rw [← hm.1]; exact Sim.pure (int_vr _)
            | _ => exact Sim.dead (Dead.stuck _)
          | nilMap => exact Sim.pure (int_vr _)
          | _ => exact Sim.dead (Dead.stuck _)
        | _ => cases h0 <;> first | exact Sim.pure (int_vr _) | exact Sim.dead (Dead.stuck _)
theorem Sim.cap (ts : Array TypeId) (t : TypeId) {xs ys : Array Value} (h : VRs C.Fn ρ xs ys) : Sim C (fun ρ => VR C.Fn ρ) ρ (Builtin.cap_ ts t xs) (Builtin.cap_ ts t ys) := by
  unfold Builtin.cap_
  have h0 := OV.at h 0
  cases ts[0]? with
  | none => exact Sim.dead (Dead.stuck _)
  | some u =>
    cases hx : xs[0]? with
    | none => exact Sim.dead (Dead.stuck _)
    | some x =>
      rw [hx] at h0
      cases hy : ys[0]? with
      | none => rw [hy] at h0; exact h0.elim
      | some y =>
        rw [hy] at h0
        dsimp only
        refine Sim.bindK (k_underlying u) fun d _ => ?_
        have h0 : VR C.Fn ρ x y := h0
        cases d with
        | pointer arr =>
          dsimp only
          refine Sim.bindK (k_underlying arr) fun d2 _ => ?_
          cases d2 <;> first | exact Sim.pure (int_vr _) | exact Sim.dead (Dead.stuck _)
        | _ => cases h0 <;> first | exact Sim.pure (int_vr _) | exact Sim.dead (Dead.stuck _)
theorem Sim.copy (ts : Array TypeId) (t : TypeId) {xs ys : Array Value} (h : VRs C.Fn ρ xs ys) : Sim C (fun ρ => VR C.Fn ρ) ρ (Builtin.copy_ ts t xs) (Builtin.copy_ ts t ys) := by
  unfold Builtin.copy_
  have h0 := OV.at h 0
  have h1 := OV.at h 1
  cases ts[0]? with
  | none => exact Sim.dead (Dead.stuck _)
  | some u =>
    cases hx : xs[0]? with
    | none => exact Sim.dead (Dead.stuck _)
    | some x =>
      cases hx1 : xs[1]? with
      | none => exact Sim.dead (Dead.stuck _)
      | some x1 =>
        rw [hx] at h0
        rw [hx1] at h1
        cases hy : ys[0]? with
        | none => rw [hy] at h0; exact h0.elim
        | some y =>
          cases hy1 : ys[1]? with
          | none => rw [hy1] at h1; exact h1.elim
          | some y1 =>
            rw [hy] at h0
            rw [hy1] at h1
            dsimp only
            refine Sim.bindK (k_underlying u) fun d _ => ?_
            have h0 : VR C.Fn ρ x y := h0
            cases d with
            | slice el =>
              dsimp only
              cases h0 with
              | nilSlice n c =>
                dsimp only
                refine Sim.bind (Sim.lenOf h1) fun ρ1 m m' e1 hm => Sim.bindK (k_sizeOf el) fun size _ => ?_
                subst hm
                exact Sim.bind (Sim.firstCells size _ (VR.mono h1 e1)) fun ρ2 cs cs' e2 hc => Sim.pure (int_vr _)
              | sl hr n c =>
                dsimp only
                refine Sim.bind (Sim.lenOf h1) fun ρ1 m m' e1 hm => Sim.bindK (k_sizeOf el) fun size _ => ?_
                subst hm
                exact Sim.bind (Sim.firstCells size _ (VR.mono h1 e1)) fun ρ2 cs cs' e2 hc => Sim.bind (Sim.storeCells _ _ (AR.mono hr (e1.trans e2)) 0 hc.list) fun _ _ _ _ _ => Sim.pure (int_vr _)
              | _ => exact Sim.dead (Dead.stuck _)
            | _ => exact Sim.dead (Dead.stuck _)
theorem Sim.eqGuard (op : BinOp) (t : TypeId) (x y : Operand) {a a' b b' : Value} (h : VR C.Fn ρ a a') (k : VR C.Fn ρ b b') : Sim C (fun _ _ _ => True) ρ (Go.eqGuard op t x y a b) (Go.eqGuard op t x y a' b') := by
  unfold Go.eqGuard
  have fin : ∀ {ρ : Brel}, Sim C (fun _ _ _ => True) ρ (Pure.pure () : Sem Unit) (Pure.pure () : Sem Unit) := Sim.pure trivial
  refine Sim.ite (fun _ => fin) fun _ => ?_
  cases k with
  | nilIface =>
    cases h with
    | nilIface =>
      refine Sim.ite (fun _ => fin) fun _ => Sim.bind (Sim.eqGuardIn _ t .nilIface .nilIface) fun _ p q _ e => ?_
      subst e
      exact Sim.ite (fun _ => Sim.dead (Dead.unsupported _)) fun _ => fin
    | junk hj => cases a' <;> first | exact fin | cases hj
    | _ => exact fin
  | agg h1 h2 =>
    cases h with
    | agg g1 g2 =>
      refine Sim.bindK Konst.program fun p _ => Sim.bindK Konst.program fun p2 _ => Sim.ite (fun _ => fin) fun _ => Sim.bind (Sim.eqGuardIn _ t (.agg g1 g2) (.agg h1 h2)) fun _ p q _ e => ?_
      subst e
      exact Sim.ite (fun _ => Sim.dead (Dead.unsupported _)) fun _ => fin
    | junk hj => cases a' <;> first | exact fin | cases hj
    | _ => exact fin
  | junk hj =>
    cases b' <;> first | (cases hj; done) | skip
    all_goals cases h <;> first | exact fin | (rename_i hu; cases a' <;> first | exact fin | cases hu)
  | _ => cases h <;> first | exact fin | (rename_i hu; cases a' <;> first | exact fin | cases hu)
/-! what may follow -/
inductive NX (Fn : FnR) (A : Prop) (ρ : Brel) : Next → Next → Prop
  | value {x y : Value} (h : VR Fn ρ x y) : NX Fn A ρ (.value x) (.value y)
  | addr {x y : Value} (a : A) (h : RP Fn ρ x y) : NX Fn A ρ (.value x) (.value y)
  | skip : NX Fn A ρ .skip .skip
  | enter {f : FuncId} (hf : Fn f) {xs ys : Array Value} (h : VRs Fn ρ xs ys) : NX Fn A ρ (.enter f xs) (.enter f ys)
def ResOk (I : Nat → Bool) (g : Func) : Prop := ∀ r ∈ g.results, match r with | .tmp k => I k = false | .cell k _ => I k = false
theorem Sim.val {s s' : Sem Value} (h : Sim C (fun ρ => VR C.Fn ρ) ρ s s') : Sim C (NX C.Fn A) ρ (do Pure.pure (.value (← s))) (do Pure.pure (.value (← s'))) :=
  Sim.bind h fun _ _ _ _ hv => Sim.pure (.value hv)
theorem Sim.unit {s s' : Sem Unit} (h : Sim C (fun _ _ _ => True) ρ s s') : Sim C (NX C.Fn A) ρ (do s; Pure.pure .skip) (do s'; Pure.pure .skip) :=
  Sim.bind h fun _ _ _ _ _ => Sim.pure .skip
def ExtOk (C : Ctx) (Gl : Nat → Prop) (fn : Func) : Prop := Extern.findNext fn = none ∧ ((∃ e, Extern.find fn = some e ∧ ∀ {ρ : Brel}, (∀ g, Gl g → ρ g g) → ∀ {xs ys : Array Value}, VRs C.Fn ρ xs ys → Sim C (fun ρ => VR C.Fn ρ) ρ (e xs) (e ys)) ∨
  (Extern.find fn = none ∧ fn.name.endsWith ".init" = false))
structure Bodies (C : Ctx) (Gl : Nat → Prop) : Prop where
  fn : ∀ f, C.Fn f → ∃ fn, C.P.funcs[f]? = some fn ∧ ResOk (C.IA f) fn ∧ (fn.name == "runtime.NumGoroutine") = false ∧ (fn.body.isNone = false ∨ (fn.body.isNone = true ∧ ExtOk C Gl fn))
  gl : ∀ g, Gl g → g < C.G
theorem Sim.callFunc {Gl : Nat → Prop} (hB : Bodies C Gl) (hg : ∀ g, Gl g → ρ g g) {f : FuncId} (hf : C.Fn f) {xs ys : Array Value} (h : VRs C.Fn ρ xs ys) : Sim C (NX C.Fn A) ρ (Go.callFunc f xs) (Go.callFunc f ys) := by
  obtain ⟨fn, h1, _, h2, h3⟩ := hB.fn f hf
  refine Sim.bindK Konst.program fun p hp => ?_
  obtain rfl : p = C.P := hp.eq Is.program
  rw [h1]
  dsimp only
  rw [h2]
  rcases h3 with h3 | ⟨h3, hn, ⟨e, he, hs⟩ | ⟨he, hi⟩⟩
  · rw [h3]
    exact Sim.pure (.enter hf h)
  · rw [h3, hn, he]
    refine Sim.bind (Sim.markExt f) fun ρ1 _ _ e1 _ => ?_
    exact Sim.bind (hs (fun g q => e1 _ _ (hg g q)) (h.mono e1)) fun _ _ _ _ hv => Sim.pure (.value hv)
  · rw [h3, hn, he, hi]
    exact Sim.dead (Dead.then (fine_mark _) fun _ => Dead.unsupported _)
theorem Sim.callMethod {Gl : Nat → Prop} (hB : Bodies C Gl) (hg : ∀ g, Gl g → ρ g g) {name : String} (hM : MethodOk C name) {x y : Value} (hx : VR C.Fn ρ x y) {xs ys : Array Value} (h : VRs C.Fn ρ xs ys) : Sim C (NX C.Fn A) ρ (Go.callMethod x name xs) (Go.callMethod y name ys) := by
  unfold Go.callMethod
  cases hx with
  | iface t hv =>
    dsimp only
    refine Sim.bindK Konst.program fun p _ => Sim.bind (Sim.method hM _ t hv) fun ρ1 u v e1 huv => ?_
    obtain ⟨u1, u2⟩ := u
    obtain ⟨v1, v2⟩ := v
    obtain ⟨g1, g2, g3⟩ := huv
    have g1 : v1 = u1 := g1
    subst g1
    exact Sim.callFunc hB (fun g q => e1 _ _ (hg g q)) g2 ((VRs.one g3).append (h.mono e1))
  | nilIface => exact Sim.dead (Dead.runtimePanic _)
  | _ => exact Sim.dead (Dead.stuck _)
def okBuiltin (P : Program) (ts : Array TypeId) : Builtin → Prop
  | .append => PlainAppend P ts
  | .cap | .copy | .len | .panic | .delete | .min | .max => True
  | _ => False
theorem Dead.panic (x : Value) : Dead C (Instr.panic x) := by
  cases x <;> first | exact Dead.halt _ | skip
  refine Dead.then (fun w es g w1 es1 hr => ?_) fun _ => Dead.ite (Dead.halt _) (Dead.runtimePanic _)
  have hr' : ((Go.sys .env).bind _).runT C.P w es = (.halt g w1, es1) := hr
  rw [Sem.runT_bind'] at hr'
  split at hr'
  · split at hr'
    · have hr2 : ((Go.program).bind _).runT C.P _ _ = (.halt g w1, es1) := hr'
      rw [Sem.runT_bind'] at hr2
      cases hr2
    · cases hr'; trivial
  · rename_i q; cases q
theorem Sim.builtin (hZ : Zeros C.P) {b : Builtin} {ts : Array TypeId} (hb : okBuiltin C.P ts b) (t : TypeId) (cs : Array Bool) {xs ys : Array Value} (h : VRs C.Fn ρ xs ys) : Sim C (NX C.Fn A) ρ (Go.builtin b ts t cs xs) (Go.builtin b ts t cs ys) := by
  cases b <;> first
    | exact hb.elim
    | exact Sim.val (Sim.append hZ ts hb t h)
    | exact Sim.val (Sim.cap ts t h)
    | exact Sim.val (Sim.copy ts t h)
    | exact Sim.val (Sim.len ts t h)
    | exact Sim.val (Sim.delete ts t h)
    | exact Sim.val (Sim.min ts t h)
    | exact Sim.val (Sim.max ts t h)
    | exact Sim.dead (Dead.bind (Dead.panic _))
def okOperand (Fn : FnR) (Gl : Nat → Prop) (I : Nat → Bool) : Operand → Prop
  | .tmp d => I d = false
  | .const v => plainN 20 v = true
  | .global g => Gl g
  | .func f => Fn f
def okAddr (Fn : FnR) (Gl : Nat → Prop) (I : Nat → Bool) : Operand → Prop
  | .tmp _ => True
  | x => okOperand Fn Gl I x
def okCall (C : Ctx) (Gl : Nat → Prop) (I : Nat → Bool) (c : Call) : Prop := (∀ x ∈ c.args, okOperand C.Fn Gl I x) ∧ (match c.callee with
  | .builtin b => okBuiltin C.P c.argTypes b
  | .value f => okOperand C.Fn Gl I f
  | .invoke r n => okOperand C.Fn Gl I r ∧ MethodOk C n)
structure ER (C : Ctx) (Gl : Nat → Prop) (I : Nat → Bool) (ρ : Brel) (f g : Operand → Value) : Prop where
  vr : ∀ x, okOperand C.Fn Gl I x → VR C.Fn ρ (f x) (g x)
  va : ∀ x, okAddr C.Fn Gl I x → VR C.Fn ρ (f x) (g x) ∨ (RP C.Fn ρ (f x) (g x) ∧ ∃ d, x = .tmp d ∧ I d = true)
  const : ∀ v, f (.const v) = v
  gl : ∀ g, Gl g → ρ g g
theorem Sim.call (hZ : Zeros C.P) {Gl : Nat → Prop} (hB : Bodies C Gl) {f g : Operand → Value} {I : Nat → Bool} (h : ER C Gl I ρ f g) {c : Call} (hc : okCall C Gl I c) (t : TypeId) :
    Sim C (NX C.Fn A) ρ (do let d ← resolve f c t; invoke d.target d.args) (do let d ← resolve g c t; invoke d.target d.args) := by
  obtain ⟨ha, hc⟩ := hc
  have hv : VRs C.Fn ρ (c.args.map f) (c.args.map g) := VRs.map _ _ _ fun x hx => h.vr x (ha x hx)
  unfold resolve
  dsimp only
  cases hcal : c.callee with
  | builtin b =>
    rw [hcal] at hc
    exact Sim.builtin hZ hc t _ hv
  | invoke r n =>
    rw [hcal] at hc
    have hargs : VRs C.Fn ρ (#[f r] ++ c.args.map f) (#[g r] ++ c.args.map g) := (VRs.one (h.vr r hc.1)).append hv
    have e1 : (#[f r] ++ c.args.map f)[0]? = some (f r) := by rw [Array.getElem?_append, if_pos (by simp)]; rfl
    have e2 : (#[g r] ++ c.args.map g)[0]? = some (g r) := by rw [Array.getElem?_append, if_pos (by simp)]; rfl
    show Sim C (NX C.Fn A) ρ (invoke (.fn (.method n) #[]) (#[f r] ++ c.args.map f)) (invoke (.fn (.method n) #[]) (#[g r] ++ c.args.map g))
    unfold Go.invoke
    dsimp only
    rw [e1, e2]
    dsimp only
    rw [← hargs.1]
    exact Sim.callMethod hB h.gl hc.2 (h.vr r hc.1) (hargs.extract _ _)
  | value x =>
    rw [hcal] at hc
    have hx := h.vr x hc
    dsimp only
    generalize f x = u at hx
    generalize g x = v at hx
    cases hx with
    | func hf h1 h2 h3 h4 => exact Sim.callFunc hB h.gl hf ((VRs.append ⟨h1, h2⟩ hv).append ⟨h3, h4⟩)
    | nilFunc => exact Sim.dead (Dead.runtimePanic .nilDeref)
    | mfunc n a b =>
      refine Sim.dead ?_
      have e1 : (#[Value.nilIface] ++ c.args.map f)[0]? = some .nilIface := by rw [Array.getElem?_append, if_pos (by simp)]; rfl
      show Dead C (invoke (.fn (.method "") #[]) (#[.nilIface] ++ c.args.map f))
      unfold Go.invoke
      dsimp only
      rw [e1]
      dsimp only
      unfold Go.callMethod
      exact Dead.runtimePanic _
    | _ => exact Sim.dead (Dead.bind (Dead.stuck _))
def MapOk (P : Program) (t : TypeId) : Prop := ∀ k e, P.underlying t = some (.map k e) → e < P.types.size
def okOp (C : Ctx) (Gl : Nat → Prop) (I : Nat → Bool) : Op → Prop
  | .move x | .assign x | .box _ x | .nilCheck x | .unOp _ _ x | .makeInterface _ x | .field _ x _ | .extract x _ => okOperand C.Fn Gl I x
  | .pick c a b => okOperand C.Fn Gl I c ∧ okOperand C.Fn Gl I a ∧ okOperand C.Fn Gl I b
  | .alloc t => t < C.P.types.size
  | .build t ps | .buildSlice t _ ps => t < C.P.types.size ∧ ∀ p ∈ ps.toList, okOperand C.Fn Gl I p.2
  | .load _ x | .fieldAddr _ x _ => okAddr C.Fn Gl I x
  | .store _ x y => okAddr C.Fn Gl I x ∧ okOperand C.Fn Gl I y
  | .indexAddr _ x y | .index _ x y => okOperand C.Fn Gl I x ∧ okOperand C.Fn Gl I y
  | .makeSlice t x y => t < C.P.types.size ∧ okOperand C.Fn Gl I x ∧ okOperand C.Fn Gl I y
  | .binOp _ _ x y _ => okOperand C.Fn Gl I x ∧ okOperand C.Fn Gl I y
  | .convert a b x => IntConv C.P a b ∧ okOperand C.Fn Gl I x
  | .makeFunc (.func f) first captured => C.Fn f ∧ (∀ x ∈ first, okOperand C.Fn Gl I x) ∧ ∀ x ∈ captured, okOperand C.Fn Gl I x
  | .slice _ x l h m => okOperand C.Fn Gl I x ∧ (∀ y ∈ l, okOperand C.Fn Gl I y) ∧ (∀ y ∈ h, okOperand C.Fn Gl I y) ∧ ∀ y ∈ m, okOperand C.Fn Gl I y
  | .call c => okCall C Gl I c
  | .makeMap _ r => ∀ y ∈ r, okOperand C.Fn Gl I y
  | .lookup t x y _ => MapOk C.P t ∧ okOperand C.Fn Gl I x ∧ okOperand C.Fn Gl I y
  | .mapEntry t x y => (MapOk C.P t ∧ KeyOk C.P t) ∧ okOperand C.Fn Gl I x ∧ okOperand C.Fn Gl I y
  | .mapUpdate t m k v | .insert t m k v => KeyOk C.P t ∧ okOperand C.Fn Gl I m ∧ okOperand C.Fn Gl I k ∧ okOperand C.Fn Gl I v
  | .entryStore _ m k v => okOperand C.Fn Gl I m ∧ okOperand C.Fn Gl I k ∧ okOperand C.Fn Gl I v
  | .range t x => (∃ k e, C.P.underlying t = some (.map k e)) ∧ okOperand C.Fn Gl I x
  | .next x false | .entry x => okOperand C.Fn Gl I x
  | .typeAssert x _ t _ => t < C.P.types.size ∧ okOperand C.Fn Gl I x
  | .panic _ => True
  | _ => False
def okOper (C : Ctx) (Gl : Nat → Prop) (I : Nat → Bool) (o : Oper) : Prop := okOp C Gl I o.op ∧ (match o.op with
  | .indexAddr _ _ _ => ∀ d, o.dst = some d → I d = true
  | .fieldAddr _ (.tmp x) _ => I x = true → ∀ d, o.dst = some d → I d = true
  | _ => True)
theorem ov_map {Gl : Nat → Prop} {f g : Operand → Value} {I : Nat → Bool} (h : ER C Gl I ρ f g) (l : Option Operand) (hl : ∀ y ∈ l, okOperand C.Fn Gl I y) : OV C.Fn ρ (l.map f) (l.map g) := by
  cases l with
  | none => trivial
  | some x => exact h.vr x (hl x rfl)
theorem Sim.execOp (hZ : Zeros C.P) {Gl : Nat → Prop} (hB : Bodies C Gl) {f g : Operand → Value} {I : Nat → Bool} (h : ER C Gl I ρ f g) {o : Oper} (hoo : okOper C Gl I o) :
    Sim C (NX C.Fn (∀ d, o.dst = some d → I d = true)) ρ (Go.execOp f o) (Go.execOp g o) := by
  obtain ⟨ho, hd⟩ := hoo
  unfold Go.execOp
  cases hop : o.op with
  | move x => rw [hop] at ho; exact Sim.pure (.value (h.vr x ho))
  | assign x => rw [hop] at ho; exact Sim.pure (.value (h.vr x ho))
  | pick c a b =>
    rw [hop] at ho
    refine Sim.bind (Sim.asBool (h.vr c ho.1)) fun _ p q e hq => ?_
    subst hq
    cases q
    · exact Sim.pure (.value ((h.vr b ho.2.2).mono e))
    · exact Sim.pure (.value ((h.vr a ho.2.1).mono e))
  | alloc t => rw [hop] at ho; exact Sim.val (Sim.alloc hZ ho)
  | box t x => rw [hop] at ho; exact Sim.val (Sim.box t (h.vr x ho))
  | build t ps =>
    rw [hop] at ho
    refine Sim.val (Sim.build hZ ho.1 ?_)
    rw [Array.toList_map, Array.toList_map]
    exact PL.map f g _ fun p hp => h.vr p.2 (ho.2 p hp)
  | buildSlice t n ps =>
    rw [hop] at ho
    refine Sim.val (Sim.buildSlice hZ ho.1 n ?_)
    rw [Array.toList_map, Array.toList_map]
    exact PL.map f g _ fun p hp => h.vr p.2 (ho.2 p hp)
  | load t x => rw [hop] at ho; exact Sim.val (Sim.loadAt t ((h.va x ho).imp id And.left))
  | store t x y => rw [hop] at ho; exact Sim.unit (Sim.storeAt t ((h.va x ho.1).imp id And.left) (h.vr y ho.2))
  | nilCheck x =>
    rw [hop] at ho
    have hx := h.vr x ho
    dsimp only
    generalize f x = u at hx
    generalize g x = v at hx
    cases hx with
    | junk hj =>
      cases v with
      | pointer a => cases a with
        | none => cases hj
        | some a => exact Sim.pure (NX.value (.junk hj))
      | agg c => cases hj
      | nilIface => cases hj
      | nilFunc => cases hj
      | func f a b => cases f with
        | method n => cases hj
        | _ => exact Sim.pure (NX.value (.junk hj))
      | _ => exact Sim.pure (NX.value (.junk hj))
    | nilPtr => exact Sim.dead (Dead.runtimePanic .nilDeref)
    | nilIface => exact Sim.dead (Dead.runtimePanic .nilDeref)
    | nilFunc => exact Sim.dead (Dead.runtimePanic .nilDeref)
    | mfunc n a b => exact Sim.dead (Dead.runtimePanic .nilDeref)
    | func hf h1 h2 h3 h4 => exact Sim.pure (NX.value (.func hf h1 h2 h3 h4))
    | agg h1 h2 => exact Sim.pure (NX.value (.agg h1 h2))
    | tuple h1 h2 => exact Sim.pure (NX.value (.tuple h1 h2))
    | _ => exact Sim.pure (NX.value (by constructor <;> assumption))
  | binOp op t x y yt =>
    rw [hop] at ho
    obtain ⟨hx, hy⟩ := ho
    exact Sim.val (Sim.bind (Sim.eqGuard op t x y (h.vr x hx) (h.vr y hy)) fun _ _ _ e _ => Sim.binOp op t ((h.vr x hx).mono e) ((h.vr y hy).mono e))
  | unOp op t x => rw [hop] at ho; exact Sim.val (Sim.unary op (h.vr x ho))
  | convert a b x => rw [hop] at ho; exact Sim.val (Sim.convert ho.1 (h.vr x ho.2))
  | makeInterface t x => rw [hop] at ho; exact Sim.val (Sim.makeInterface t (h.vr x ho))
  | makeFunc fn first captured =>
    rw [hop] at ho
    cases fn with
    | func k =>
      obtain ⟨h1, h2, h3⟩ := ho
      have q1 : VRs C.Fn ρ (first.map f) (first.map g) := VRs.map _ _ _ fun x hx => h.vr x (h2 x hx)
      have q2 : VRs C.Fn ρ (captured.map f) (captured.map g) := VRs.map _ _ _ fun x hx => h.vr x (h3 x hx)
      exact Sim.val (Sim.pure (.func h1 q1.1 q1.2 q2.1 q2.2))
    | _ => exact ho.elim
  | makeSlice t x y => rw [hop] at ho; exact Sim.val (Sim.makeSlice hZ ho.1 (h.vr x ho.2.1) (h.vr y ho.2.2))
  | slice t x l hh m => rw [hop] at ho; exact Sim.val (Sim.sliceAt t (h.vr x ho.1) (ov_map h l ho.2.1) (ov_map h hh ho.2.2.1) (ov_map h m ho.2.2.2))
  | fieldAddr t x i =>
    rw [hop] at ho hd
    rcases h.va x ho with hv | ⟨hv, d, rfl, hI⟩
    · exact Sim.val (Sim.fieldAt t hv i)
    · exact Sim.bind (Sim.fieldAtP t hv i) fun _ _ _ _ z => Sim.pure (.addr (hd hI) z)
  | field t x i => rw [hop] at ho; exact Sim.val (Sim.field t (h.vr x ho) i)
  | indexAddr t x y => rw [hop] at ho hd; exact Sim.bind (Sim.indexAt t (h.vr x ho.1) (h.vr y ho.2)) fun _ _ _ _ z => Sim.pure (z.elim .value (.addr hd))
  | index t x y => rw [hop] at ho; exact Sim.val (Sim.index t (h.vr x ho.1) (h.vr y ho.2))
  | extract x i => rw [hop] at ho; exact Sim.val (Sim.extract (h.vr x ho) i)
  | call c => rw [hop] at ho; exact Sim.call hZ hB h ho _
  | makeMap t r => rw [hop] at ho; exact Sim.val (Sim.makeMap t (ov_map h r ho))
  | lookup t x y b => rw [hop] at ho; exact Sim.val (Sim.lookup hZ ho.1 (h.vr x ho.2.1) (h.vr y ho.2.2) b)
  | mapEntry t x y => rw [hop] at ho; exact Sim.val (Sim.mapEntry hZ ho.1.2 ho.1.1 (h.vr x ho.2.1) (h.vr y ho.2.2))
  | mapUpdate t m k v => rw [hop] at ho; exact Sim.unit (Sim.mapUpdate ho.1 (h.vr m ho.2.1) (h.vr k ho.2.2.1) (h.vr v ho.2.2.2))
  | insert t m k v => rw [hop] at ho; exact Sim.unit (Sim.mapUpdate ho.1 (h.vr m ho.2.1) (h.vr k ho.2.2.1) (h.vr v ho.2.2.2))
  | entryStore t m k v => rw [hop] at ho; exact Sim.unit (Sim.entryStore t (h.vr m ho.1) (h.vr k ho.2.1) (h.vr v ho.2.2))
  | range t x => rw [hop] at ho; exact Sim.val (Sim.range ho.1 (h.vr x ho.2))
  | next x b =>
    rw [hop] at ho
    cases b with
    | true => exact ho.elim
    | false => exact Sim.val (Sim.next o.type (h.vr x ho))
  | panic x => exact Sim.dead (Dead.bind (Dead.panic _))
  | entry x => rw [hop] at ho; exact Sim.val (Sim.entry (h.vr x ho))
  | typeAssert x xt t b => rw [hop] at ho; exact Sim.val (Sim.typeAssert hZ ho.1 b (h.vr x ho.2))
  | _ => rw [hop] at ho; exact ho.elim
end exec
end Go.Proofs.YtmbfdhekplnoaaaDoor

namespace Go.Proofs.YtmbfdhekplnoaaaDoor
open Go Go.Conc

def okCode (C : Ctx) (Gl : Nat → Prop) (I : Nat → Bool) : Code → Prop
  | .skip | .label _ | .exit _ | .ret | .refuse _ => True
  | .region _ ops _ => ∀ o ∈ ops, okOper C Gl I o
  | .seq a b => okCode C Gl I a ∧ okCode C Gl I b
  | .cond c a b => okOperand C.Fn Gl I c ∧ okCode C Gl I a ∧ okCode C Gl I b
  | .block _ b | .loop b | .scope b => okCode C Gl I b
  | .goto _ | .rangeFunc .. => False
def okItem (C : Ctx) (Gl : Nat → Prop) (I : Nat → Bool) : Item → Prop
  | .code c => okCode C Gl I c
  | .inBlock _ => True
  | .inLoop b | .inScope b => okCode C Gl I b
  | .inRegion ops _ => ∀ o ∈ ops, okOper C Gl I o
  | _ => False
def Fr (fn : FuncId) (tmps : Array Value) (todo : List Item) (m : FrameMode) : Frame := { fn, tmps, todo, defers := [], mode := m, kind := .normal, roundOf := none }
def Ctx.Has (C : Ctx) (fn : FuncId) : Prop := ∃ g, C.P.funcs[fn]? = some g ∧ ResOk (C.IA fn) g
def FR (C : Ctx) (Gl : Nat → Prop) (ρ : Brel) (a b : Frame) : Prop :=
  ∃ fn t t' k m, a = Fr fn t k m ∧ b = Fr fn t' k m ∧ C.Has fn ∧ VPs C.Fn ρ (C.IA fn) t t' ∧ (∀ i ∈ k, okItem C Gl (C.IA fn) i) ∧ (m = .run ∨ m = .returning)
def FRs (C : Ctx) (Gl : Nat → Prop) (ρ : Brel) : List Frame → List Frame → Prop
  | [], [] => True
  | a :: l, b :: m => FR C Gl ρ a b ∧ FRs C Gl ρ l m
  | _, _ => False
theorem FR.mono {C : Ctx} {Gl : Nat → Prop} {ρ ρ' : Brel} {a b : Frame} (h : FR C Gl ρ a b) (e : Ext ρ ρ') : FR C Gl ρ' a b := by
  obtain ⟨fn, t, t', k, m, h1, h2, h3, h4, h5⟩ := h
  exact ⟨fn, t, t', k, m, h1, h2, h3, h4.mono e, h5⟩
theorem FRs.mono {C : Ctx} {Gl : Nat → Prop} {ρ ρ' : Brel} (e : Ext ρ ρ') : ∀ {a b : List Frame}, FRs C Gl ρ a b → FRs C Gl ρ' a b
  | [], [], _ => trivial
  | _ :: _, _ :: _, h => ⟨h.1.mono e, FRs.mono e h.2⟩
  | [], _ :: _, h => h.elim
  | _ :: _, [], h => h.elim
def Codes (C : Ctx) (Gl : Nat → Prop) : Prop := ∀ f fn, C.Fn f → C.P.funcs[f]? = some fn → ∀ b, fn.body = some b → okCode C Gl (C.IA f) b

section step
variable {C : Ctx} {Gl : Nat → Prop} {ρ : Brel} {w W : World}
theorem er_of (hg : ∀ g, Gl g → ρ g g) (hG : ∀ g, Gl g → g < C.G) {fn : FuncId} {I : Nat → Bool} {t t' : Array Value} {k : List Item} {m : FrameMode} (h : VPs C.Fn ρ I t t') : ER C Gl I ρ (Fr fn t k m).eval (Fr fn t' k m).eval := by
  have tm : ∀ d, VR C.Fn ρ (t.getD d undef) (t'.getD d undef) ∨ (I d = true ∧ RP C.Fn ρ (t.getD d undef) (t'.getD d undef)) := fun d => by
    rw [Array.getD_eq_getD_getElem?, Array.getD_eq_getD_getElem?]
    cases hx : t[d]? with
    | none => rw [h.none_at hx]; exact .inl VR.undef
    | some a => obtain ⟨b, hb, hr⟩ := h.at hx; rw [hb]; exact hr
  have vr : ∀ x, okOperand C.Fn Gl I x → VR C.Fn ρ ((Fr fn t k m).eval x) ((Fr fn t' k m).eval x) := fun x hx => by
    cases x with
    | tmp d =>
      rcases tm d with z | ⟨z, _⟩
      · exact z
      · have hx : I d = false := hx
        rw [hx] at z; cases z
    | const v => exact plainN_vr 20 v hx
    | global g => exact .ptr ⟨hg g hx, rfl, rfl⟩ fun q => by have := (C.rof _ q).2; have := hG g hx; have this' : C.G ≤ g := (C.rof _ q).2; omega
    | func f => exact .func hx rfl (fun i x y hx => by simp at hx) rfl (fun i x y hx => by simp at hx)
  refine ⟨vr, fun x hx => ?_, fun v => rfl, hg⟩
  cases x with
  | tmp d => exact (tm d).imp id fun z => ⟨z.2, d, rfl, z.1⟩
  | const v => exact .inl (vr _ hx)
  | global g => exact .inl (vr _ hx)
  | func f => exact .inl (vr _ hx)
theorem yielded_eq (ops : Array Oper) {I : Nat → Bool} {t t' : Array Value} (h : VPs C.Fn ρ I t t') (j : Nat) : yielded ops t' j = yielded ops t j := by
  unfold yielded
  cases (ops[j]?).bind (·.dst) with
  | none => rfl
  | some d =>
    show (match t'[d]? with | some (.bool b) => some b | _ => none) = (match t[d]? with | some (.bool b) => some b | _ => none)
    cases ht : t[d]? with
    | none => rw [h.none_at ht]
    | some v =>
      obtain ⟨v', e1, e2⟩ := h.at ht
      rw [e1]
      rcases e2 with e2 | ⟨_, a, b, rfl, rfl, _⟩
      · cases e2 with
        | junk hj => cases v' <;> first | rfl | cases hj
        | _ => rfl
      · rfl
theorem seen_sub (P : Program) (fn : FuncId) (es : Array Event) : ∀ e ∈ seen P fn es, e ∈ es := by
  unfold seen
  dsimp only
  refine Array.foldl_induction (motive := fun _ (acc : Bool × Array Event) => ∀ e ∈ acc.2, e ∈ es) (fun e he => by simp at he) fun i acc h => ?_
  obtain ⟨q, kept⟩ := acc
  dsimp only
  split
  · exact h
  · dsimp only
    split
    · exact h
    · intro e he
      rcases Array.mem_push.1 he with z | z
      · exact h e z
      · rw [z]; exact Array.getElem_mem _
inductive StepR (C : Ctx) (Gl : Nat → Prop) (ρ : Brel) (W : World) (cs cs' : List Frame) : GStep → GStep → Prop
  | ended (o : Outcome) (w1 : World) (es : Array Event) (s : GStep) : StepR C Gl ρ W cs cs' (.ended o w1 es) s
  | panics (fr : Frame) (l : List Frame) (w1 : World) (es : Array Event) (s : GStep) (hd : fr.defers = []) (hk : fr.kind = .normal) (hm : ∃ ch, fr.mode = .panicking ch) (hl : ∃ l', FRs C Gl ρ l l') : StepR C Gl ρ W cs cs' (.go (G fr (l ++ cs)) w1 es) s
  | goes {ρ' : Brel} {a b : Frame} {l l' : List Frame} {w1 W1 : World} (es : Array Event) {es' : Array Event} (h : FR C Gl ρ' a b) (hl : FRs C Gl ρ' l l') (hw : WR C ρ' w1 W1) (hd : Did C ρ ρ' W W1 #[] es') :
      StepR C Gl ρ W cs cs' (.go (G a (l ++ cs)) w1 es) (.go (G b (l' ++ cs')) W1 es')
theorem StepR.still {cs cs' l l' : List Frame} {fn : FuncId} {t t' : Array Value} {k : List Item} {m : FrameMode} (hf : C.Has fn) (ht : VPs C.Fn ρ (C.IA fn) t t') (hk : ∀ i ∈ k, okItem C Gl (C.IA fn) i) (hm : m = .run ∨ m = .returning) (hl : FRs C Gl ρ l l') (hw : WR C ρ w W) :
    StepR C Gl ρ W cs cs' (.go (G (Fr fn t k m) (l ++ cs)) w #[]) (.go (G (Fr fn t' k m) (l' ++ cs')) W #[]) :=
  .goes _ ⟨fn, t, t', k, m, rfl, rfl, hf, ht, hk, hm⟩ hl hw (Did.refl _ _ _ _)
theorem exitTo_ok {I : Nat → Bool} (id : Nat) : ∀ (k k' : List Item), exitTo id k = some k' → (∀ i ∈ k, okItem C Gl I i) → ∀ i ∈ k', okItem C Gl I i
  | [], k', h, _ => by simp [exitTo] at h
  | x :: k, k', h, hk => by
    have hk' : ∀ i ∈ k, okItem C Gl I i := fun i hi => hk i (List.mem_cons_of_mem _ hi)
    cases x <;> simp only [exitTo] at h
    case inBlock j =>
      split at h
      · cases h; exact hk'
      · exact exitTo_ok id k k' h hk'
    all_goals exact exitTo_ok id k k' h hk'
theorem step_ctl (main : Bool) {fn : FuncId} {t t' : Array Value} {x : Item} {k : List Item} {l l' cs cs' : List Frame} (hg : ∀ g, Gl g → ρ g g) (hG : ∀ g, Gl g → g < C.G) (hf : C.Has fn) (ht : VPs C.Fn ρ (C.IA fn) t t') (hk : ∀ i ∈ x :: k, okItem C Gl (C.IA fn) i) (hl : FRs C Gl ρ l l') (hw : WR C ρ w W)
    (hx : ∀ ops j r, x ≠ .inRegion ops (j :: r)) (hr : ∀ id ops, x ≠ .code (.region id ops true)) :
    StepR C Gl ρ W cs cs' (stepG C.P true (G (Fr fn t (x :: k) .run) (l ++ cs)) w) (stepG C.P main (G (Fr fn t' (x :: k) .run) (l' ++ cs')) W) := by
  have hx0 := hk x (List.mem_cons_self ..)
  have hk' : ∀ i ∈ k, okItem C Gl (C.IA fn) i := fun i hi => hk i (List.mem_cons_of_mem _ hi)
  have two : ∀ {a b : Item}, okItem C Gl (C.IA fn) a → okItem C Gl (C.IA fn) b → ∀ i ∈ a :: b :: k, okItem C Gl (C.IA fn) i := by
    intro a b ha hb i hi
    rcases List.mem_cons.1 hi with rfl | hi
    · exact ha
    · rcases List.mem_cons.1 hi with rfl | hi
      · exact hb
      · exact hk' i hi
  have one : ∀ {a : Item}, okItem C Gl (C.IA fn) a → ∀ i ∈ a :: k, okItem C Gl (C.IA fn) i := by
    intro a ha i hi
    rcases List.mem_cons.1 hi with rfl | hi
    · exact ha
    · exact hk' i hi
  cases x with
  | inBlock id => exact StepR.still hf ht hk' (.inl rfl) hl hw
  | inScope b => exact StepR.still hf ht hk' (.inl rfl) hl hw
  | inLoop b => exact StepR.still hf ht (two hx0 hx0) (.inl rfl) hl hw
  | inRegion ops todo =>
    cases todo with
    | nil => exact StepR.still hf ht hk' (.inl rfl) hl hw
    | cons j r => exact absurd rfl (hx ops j r)
  | code c =>
    cases c with
    | skip => exact StepR.still hf ht hk' (.inl rfl) hl hw
    | label n => exact StepR.still hf ht hk' (.inl rfl) hl hw
    | ret => exact StepR.still hf ht hk (.inr rfl) hl hw
    | refuse s => exact .ended _ _ _ _
    | seq a b => exact StepR.still hf ht (two hx0.1 hx0.2) (.inl rfl) hl hw
    | block id b => exact StepR.still hf ht (two (a := .code b) (b := .inBlock id) hx0 trivial) (.inl rfl) hl hw
    | loop b => exact StepR.still hf ht (two (a := .code b) (b := .inLoop b) hx0 hx0) (.inl rfl) hl hw
    | scope b => exact StepR.still hf ht (two (a := .code b) (b := .inScope b) hx0 hx0) (.inl rfl) hl hw
    | region id ops draw =>
      cases draw with
      | true => exact absurd rfl (hr id ops)
      | false => exact StepR.still hf ht (one (a := .inRegion ops _) hx0) (.inl rfl) hl hw
    | cond c a b =>
      have hc := (er_of (fn := fn) (k := .code (.cond c a b) :: k) (m := .run) hg hG ht).vr c hx0.1
      have e1 : ∀ {t : Array Value} {v : Bool} (main : Bool) (l : List Frame) (w : World), (Fr fn t (.code (.cond c a b) :: k) .run).eval c = .bool v → stepG C.P main (G (Fr fn t (.code (.cond c a b) :: k) .run) l) w = .go (G (Fr fn t (.code (if v then a else b) :: k) .run) l) w := by
        intro t v main l w hv
        have : stepG C.P main (G (Fr fn t (.code (.cond c a b) :: k) .run) l) w = (match (Fr fn t (.code (.cond c a b) :: k) .run).eval c with
            | .bool b' => GStep.go (G (Fr fn t (.code (if b' then a else b) :: k) .run) l) w
            | _ => .ended (.stuck "cond: bool expected" ((Fr fn t (.code (.cond c a b) :: k) .run).pos C.P)) w) := rfl
        rw [this, hv]
      have e2 : ∀ {t : Array Value} (main : Bool) (l : List Frame) (w : World), (∀ v, (Fr fn t (.code (.cond c a b) :: k) .run).eval c ≠ .bool v) → ∃ o, stepG C.P main (G (Fr fn t (.code (.cond c a b) :: k) .run) l) w = .ended o w := by
        intro t main l w hv
        have : stepG C.P main (G (Fr fn t (.code (.cond c a b) :: k) .run) l) w = (match (Fr fn t (.code (.cond c a b) :: k) .run).eval c with
            | .bool b' => GStep.go (G (Fr fn t (.code (if b' then a else b) :: k) .run) l) w
            | _ => .ended (.stuck "cond: bool expected" ((Fr fn t (.code (.cond c a b) :: k) .run).pos C.P)) w) := rfl
        rw [this]
        split
        · rename_i v q; exact absurd q (hv v)
        · exact ⟨_, rfl⟩
      by_cases hb : ∃ v, (Fr fn t (.code (.cond c a b) :: k) .run).eval c = .bool v
      · obtain ⟨v, hv⟩ := hb
        rw [hv] at hc
        have hv' : (Fr fn t' (.code (.cond c a b) :: k) .run).eval c = .bool v := by
          generalize (Fr fn t' (.code (.cond c a b) :: k) .run).eval c = z at hc ⊢
          cases hc; rfl
        rw [e1 true _ w hv, e1 main _ W hv']
        refine StepR.still hf ht (one (a := .code _) ?_) (.inl rfl) hl hw
        cases v
        · exact hx0.2.2
        · exact hx0.2.1
      · obtain ⟨o, ho⟩ := e2 (t := t) true (l ++ cs) w fun v q => hb ⟨v, q⟩
        rw [ho]
        exact .ended _ _ _ _
    | exit id =>
      have e : ∀ {t : Array Value} (main : Bool) (l : List Frame) (w : World), stepG C.P main (G (Fr fn t (.code (.exit id) :: k) .run) l) w = (exitTo id k).elim (.ended (.stuck "exit, goto: no such block or label" ((Fr fn t (.code (.exit id) :: k) .run).pos C.P)) w) (fun k' => .go (G (Fr fn t k' .run) l) w) := fun _ _ _ => rfl
      rw [e, e]
      cases hq : exitTo id k with
      | none => exact .ended _ _ _ _
      | some k' => exact StepR.still hf ht (exitTo_ok id k k' hq hk') (.inl rfl) hl hw
    | goto n => exact hx0.elim
    | rangeFunc a b c d => exact hx0.elim
  | _ => exact hx0.elim
end step
end Go.Proofs.YtmbfdhekplnoaaaDoor

namespace Go.Proofs.YtmbfdhekplnoaaaDoor
open Go Go.Conc

section step
variable {C : Ctx} {Gl : Nat → Prop} {ρ : Brel} {w W : World}
theorem step_draw (main : Bool) {fn : FuncId} {t t' : Array Value} {id : Nat} {ops : Array Oper} {k : List Item} {l l' cs cs' : List Frame} (hf : C.Has fn) (ht : VPs C.Fn ρ (C.IA fn) t t') (hk : ∀ i ∈ (.code (.region id ops true) : Item) :: k, okItem C Gl (C.IA fn) i) (hl : FRs C Gl ρ l l') (hw : WR C ρ w W) :
    StepR C Gl ρ W cs cs' (stepG C.P true (G (Fr fn t (.code (.region id ops true) :: k) .run) (l ++ cs)) w) (stepG C.P main (G (Fr fn t' (.code (.region id ops true) :: k) .run) (l' ++ cs')) W) := by
  have e : ∀ {t : Array Value} (main : Bool) (l : List Frame) (w : World), stepG C.P main (G (Fr fn t (.code (.region id ops true) :: k) .run) l) w =
      .go (G (Fr fn t (.inRegion ops (Region.schedule (C.P.follows .mixedOrders) ops (w.tape w.drawn (.order fn id))) :: k) .run) l) { w with drawn := w.drawn + 1 } := fun _ _ _ => rfl
  rw [e, e, hw.tape, hw.drawn]
  refine .goes (ρ' := ρ) _ ⟨fn, t, t', _, .run, rfl, rfl, hf, ht, fun i hi => ?_, .inl rfl⟩ hl ⟨hw.one, hw.obj, rfl, rfl, hw.fz, hw.fr, hw.fro, hw.low, hw.gw, hw.gW⟩ ⟨Ext.refl _, fun _ _ h => .inl h, Nat.le_refl _, fun _ _ _ => rfl, rfl, rfl, by show W.drawn ≤ w.drawn + 1; rw [hw.drawn]; exact Nat.le_succ _, #[], by simp, fun e h => by simp at h⟩
  rcases List.mem_cons.1 hi with rfl | hi
  · exact hk (.code (.region id ops true)) (List.mem_cons_self ..)
  · exact hk i (List.mem_cons_of_mem _ hi)
theorem step_end (main : Bool) {fn : FuncId} {t t' : Array Value} {l l' cs cs' : List Frame} (hf : C.Has fn) (ht : VPs C.Fn ρ (C.IA fn) t t') (hl : FRs C Gl ρ l l') (hw : WR C ρ w W) :
    StepR C Gl ρ W cs cs' (stepG C.P true (G (Fr fn t [] .run) (l ++ cs)) w) (stepG C.P main (G (Fr fn t' [] .run) (l' ++ cs')) W) :=
  StepR.still hf ht (fun i hi => by cases hi) (.inr rfl) hl hw
def putT (t : Array Value) (o : Option Oper) (v : Value) : Array Value := match o.bind (·.dst) with | some d => t.setIfInBounds d v | none => t
theorem putT_vr {Fn : FnR} {I : Nat → Bool} {t t' : Array Value} {x y : Value} (h : VPs Fn ρ I t t') (o : Option Oper) (hv : VR Fn ρ x y ∨ ((∀ d, o.bind (·.dst) = some d → I d = true) ∧ RP Fn ρ x y)) : VPs Fn ρ I (putT t o x) (putT t' o y) := by
  unfold putT
  split
  · rename_i d hd
    exact h.set d (hv.imp id fun z => ⟨z.1 d hd, z.2⟩)
  · exact h
theorem step_left (main : Bool) {fn : FuncId} {t t' : Array Value} {ops : Array Oper} {i : Nat} {r : List Nat} {k : List Item} {l l' cs cs' : List Frame} (hf : C.Has fn) (ht : VPs C.Fn ρ (C.IA fn) t t') (hk : ∀ j ∈ (.inRegion ops (i :: r) : Item) :: k, okItem C Gl (C.IA fn) j) (hl : FRs C Gl ρ l l') (hw : WR C ρ w W)
    (hn : ((ops[i]?).map (Region.wanted · (yielded ops t))).getD false = false) :
    StepR C Gl ρ W cs cs' (stepG C.P true (G (Fr fn t (.inRegion ops (i :: r) :: k) .run) (l ++ cs)) w) (stepG C.P main (G (Fr fn t' (.inRegion ops (i :: r) :: k) .run) (l' ++ cs')) W) := by
  have hy : yielded ops t' = yielded ops t := funext fun j => yielded_eq ops ht j
  have e : ∀ {t : Array Value} (main : Bool) (l : List Frame) (w : World), ((ops[i]?).map (Region.wanted · (yielded ops t))).getD false = false → stepG C.P main (G (Fr fn t (.inRegion ops (i :: r) :: k) .run) l) w = .go (G (Fr fn (putT t ops[i]? undef) (.inRegion ops r :: k) .run) l) w := by
    intro t main l w hn
    have : stepG C.P main (G (Fr fn t (.inRegion ops (i :: r) :: k) .run) l) w = (if ((ops[i]?).map (Region.wanted · (yielded ops t))).getD false then stepG.oper C.P true (Fr fn t (.inRegion ops (i :: r) :: k) .run) l none w else .go (G ((Fr fn t (.inRegion ops (i :: r) :: k) .run).finish undef) l) w) := rfl
    rw [this, hn]
    rfl
  rw [e true _ w hn, e main _ W (by rw [hy]; exact hn)]
  refine StepR.still hf (putT_vr ht _ (.inl VR.undef)) (fun j hj => ?_) (.inl rfl) hl hw
  rcases List.mem_cons.1 hj with rfl | hj
  · exact hk (.inRegion ops (i :: r)) (List.mem_cons_self ..)
  · exact hk j (List.mem_cons_of_mem _ hj)
theorem did_seen {ρ' : Brel} {W1 : World} {es : Array Event} (fn : FuncId) (h : Did C ρ ρ' W W1 #[] es) : Did C ρ ρ' W W1 #[] (seen C.P fn es ++ #[]) := by
  obtain ⟨l, e, hl⟩ := h.evs
  refine { h with evs := ⟨seen C.P fn es ++ #[], by simp, fun x hx => ?_⟩ }
  have := seen_sub C.P fn es x (by simpa using hx)
  rw [e] at this
  exact hl x (by simpa using this)
theorem step_oper (hZ : Zeros C.P) (hB : Bodies C Gl) (hC : Codes C Gl) (main : Bool) {fn : FuncId} {t t' : Array Value} {ops : Array Oper} {i : Nat} {r : List Nat} {k : List Item} {l l' cs cs' : List Frame} (hg : ∀ g, Gl g → ρ g g) (hf : C.Has fn) (ht : VPs C.Fn ρ (C.IA fn) t t') (hk : ∀ j ∈ (.inRegion ops (i :: r) : Item) :: k, okItem C Gl (C.IA fn) j) (hl : FRs C Gl ρ l l') (hw : WR C ρ w W)
    {o : Oper} (ho : ops[i]? = some o) (hn : Region.wanted o (yielded ops t) = true) :
    StepR C Gl ρ W cs cs' (stepG C.P true (G (Fr fn t (.inRegion ops (i :: r) :: k) .run) (l ++ cs)) w) (stepG C.P main (G (Fr fn t' (.inRegion ops (i :: r) :: k) .run) (l' ++ cs')) W) := by
  have hy : yielded ops t' = yielded ops t := funext fun j => yielded_eq ops ht j
  have e : ∀ {t : Array Value} (main : Bool) (l : List Frame) (w : World), Region.wanted o (yielded ops t) = true → stepG C.P main (G (Fr fn t (.inRegion ops (i :: r) :: k) .run) l) w = stepG.apply C.P true (Fr fn t (.inRegion ops (i :: r) :: k) .run) l none (Go.execOp (Fr fn t (.inRegion ops (i :: r) :: k) .run).eval o) w := by
    intro t main l w hn
    have : stepG C.P main (G (Fr fn t (.inRegion ops (i :: r) :: k) .run) l) w = (if ((ops[i]?).map (Region.wanted · (yielded ops t))).getD false then stepG.oper C.P true (Fr fn t (.inRegion ops (i :: r) :: k) .run) l none w else .go (G ((Fr fn t (.inRegion ops (i :: r) :: k) .run).finish undef) l) w) := rfl
    rw [this, if_pos (by rw [ho]; exact hn)]
    have : stepG.oper C.P true (Fr fn t (.inRegion ops (i :: r) :: k) .run) l none w = (match ops[i]? with
      | none => .ended (.stuck "no operation here" ((Fr fn t (.inRegion ops (i :: r) :: k) .run).pos C.P)) w
      | some o => stepG.apply C.P true (Fr fn t (.inRegion ops (i :: r) :: k) .run) l none (Go.execOp (Fr fn t (.inRegion ops (i :: r) :: k) .run).eval o) w) := rfl
    rw [this, ho]
  rw [e true _ w hn, e main _ W (by rw [hy]; exact hn)]
  have hoo : okOper C Gl (C.IA fn) o := hk (.inRegion ops (i :: r)) (List.mem_cons_self ..) o (Array.mem_of_getElem? ho)
  have hS := Sim.execOp hZ hB (er_of (fn := fn) (k := .inRegion ops (i :: r) :: k) (m := .run) hg hB.gl ht) hoo w W hw
  have hk2 : ∀ j ∈ (.inRegion ops r : Item) :: k, okItem C Gl (C.IA fn) j := fun j hj => by
    rcases List.mem_cons.1 hj with rfl | hj
    · exact hk (.inRegion ops (i :: r)) (List.mem_cons_self ..)
    · exact hk j (List.mem_cons_of_mem _ hj)
  generalize hs : Go.execOp (Fr fn t (.inRegion ops (i :: r) :: k) .run).eval o = s at hS ⊢
  generalize hs' : Go.execOp (Fr fn t' (.inRegion ops (i :: r) :: k) .run).eval o = s' at hS ⊢
  cases hr : s.runT C.P w #[] with
  | mk res es =>
    cases res with
    | halt g w1 =>
      have hb := hS.1 _ _ _ _ hr
      have : stepG.apply C.P true (Fr fn t (.inRegion ops (i :: r) :: k) .run) (l ++ cs) none s w = stepG.apply C.P true (Fr fn t (.inRegion ops (i :: r) :: k) .run) (l ++ cs) none s w := rfl
      unfold stepG.apply
      rw [hr]
      cases g with
      | panic v => exact .panics _ l _ _ _ rfl rfl ⟨_, rfl⟩ ⟨l', hl⟩
      | stuck u => exact .ended _ _ _ _
      | unsupported u => cases u <;> first | exact hb.elim | exact .ended _ _ _ _
      | _ => exact hb.elim
    | ok nx w1 =>
      obtain ⟨ρ', nx', W1, es', hr', hnx, hw1, hd⟩ := hS.2 #[] #[] nx w1 es hr
      unfold stepG.apply
      rw [hr, hr']
      cases hnx with
      | value hv => exact .goes _ ⟨fn, _, _, _, .run, rfl, rfl, hf, putT_vr (ht.mono hd.ext) ops[i]? (.inl hv), hk2, .inl rfl⟩ (hl.mono hd.ext) hw1 (did_seen fn hd)
      | addr ha hv => exact .goes _ ⟨fn, _, _, _, .run, rfl, rfl, hf, putT_vr (ht.mono hd.ext) ops[i]? (.inr ⟨fun d q => ha d (by rw [ho] at q; exact q), hv⟩), hk2, .inl rfl⟩ (hl.mono hd.ext) hw1 (did_seen fn hd)
      | skip => exact .goes _ ⟨fn, _, _, _, .run, rfl, rfl, hf, putT_vr (ht.mono hd.ext) ops[i]? (.inl VR.undef), hk2, .inl rfl⟩ (hl.mono hd.ext) hw1 (did_seen fn hd)
      | @enter f hf2 xs ys hxy =>
        refine .goes (l := Fr fn t (.inRegion ops (i :: r) :: k) .run :: l) (l' := Fr fn t' (.inRegion ops (i :: r) :: k) .run :: l') _ ⟨f, _, _, _, .run, rfl, rfl, let ⟨g, h, hr, _⟩ := hB.fn f hf2; ⟨g, h, hr⟩, ?_, fun j hj => ?_, .inl rfl⟩ ⟨⟨fn, t, t', _, .run, rfl, rfl, hf, ht.mono hd.ext, hk, .inl rfl⟩, hl.mono hd.ext⟩ hw1 (did_seen fn hd)
        · rw [← hxy.1]
          exact VPs.of (hxy.append (VRs.replicate VR.undef _))
        · rw [List.mem_singleton.1 hj]
          show okCode C Gl (C.IA f) _
          cases hfn : C.P.funcs[f]? with
          | none => exact trivial
          | some g =>
            cases hbd : g.body with
            | none => simp only [Option.bind_some, hbd]; exact trivial
            | some b => simp only [Option.bind_some, hbd]; exact hC f g hf2 hfn b hbd
theorem Sim.results {fn : Func} {I : Nat → Bool} (hr : ResOk I fn) : ∀ {ρ : Brel} {t t' : Array Value}, VPs C.Fn ρ I t t' → Sim C (fun ρ => VR C.Fn ρ) ρ (Go.results fn t) (Go.results fn t') := by
  intro ρ t t' ht
  unfold Go.results
  have tm : ∀ {ρ : Brel}, VPs C.Fn ρ I t t' → ∀ d, I d = false → VR C.Fn ρ (t.getD d undef) (t'.getD d undef) := fun {ρ} ht d hd => by
    rw [Array.getD_eq_getD_getElem?, Array.getD_eq_getD_getElem?]
    cases hx : t[d]? with
    | none => rw [ht.none_at hx]; exact VR.undef
    | some a =>
      obtain ⟨b, hb, hr⟩ := ht.at hx
      rw [hb]
      rcases hr with hr | ⟨hr, _⟩
      · exact hr
      · rw [hd] at hr; cases hr
  have key : ∀ (l : List ResultVar) {ρ : Brel}, (∀ r ∈ l, match r with | .tmp k => I k = false | .cell k _ => I k = false) → VPs C.Fn ρ I t t' → Sim C (fun ρ xs ys => VRs C.Fn ρ xs.toArray ys.toArray) ρ
      (l.mapM fun | .tmp u => Pure.pure (t.getD u undef) | .cell a u => do Go.loadVar u (← Go.asAddr (t.getD a undef)))
      (l.mapM fun | .tmp u => Pure.pure (t'.getD u undef) | .cell a u => do Go.loadVar u (← Go.asAddr (t'.getD a undef))) := by
    intro l
    induction l with
    | nil => intro ρ _ ht; exact Sim.pure VRs.nil
    | cons a l ih =>
      intro ρ hr ht
      rw [List.mapM_cons, List.mapM_cons]
      have ha := hr a (List.mem_cons_self ..)
      refine Sim.bind (A := fun ρ => VR C.Fn ρ) ?_ fun ρ1 x y e1 hxy => Sim.bind (ih (fun r q => hr r (List.mem_cons_of_mem _ q)) (ht.mono e1)) fun ρ2 xs ys e2 hl => Sim.pure ?_
      · cases a with
        | tmp u => exact Sim.pure (tm ht u ha)
        | cell c u => exact Sim.bind (Sim.asAddr (tm ht c ha)) fun _ _ _ _ r => Sim.loadVar u r.1
      · have := (VRs.one (hxy.mono e2)).append hl
        simpa using this
  have hr2 : ∀ r ∈ fn.results.toList, match r with | .tmp k => I k = false | .cell k _ => I k = false := fun r q => hr r (by simpa using q)
  rw [← Array.toArray_toList (xs := fn.results), List.mapM_toArray, List.mapM_toArray]
  refine Sim.bind (A := fun ρ => VRs C.Fn ρ) (Sim.bind (key fn.results.toList hr2 ht) fun _ _ _ _ h => Sim.pure h) fun ρ1 xs ys e1 h => Sim.pure ?_
  by_cases q : xs.size = 1
  · have q' : ys.size = 1 := h.1 ▸ q
    rw [dif_pos q, dif_pos q']
    exact h.2 0 _ _ (by simp [q]) (by simp [q'])
  · have q' : ¬ ys.size = 1 := h.1 ▸ q
    rw [dif_neg q, dif_neg q']
    exact VR.tup h
theorem finish_vr {a b : Frame} (h : FR C Gl ρ a b) {x y : Value} (hv : VR C.Fn ρ x y) : FR C Gl ρ (a.finish x) (b.finish y) := by
  obtain ⟨fn, t, t', k, m, rfl, rfl, h3, h4, h5, h6⟩ := h
  cases k with
  | nil => exact ⟨fn, t, t', [], m, rfl, rfl, h3, h4, h5, h6⟩
  | cons i k =>
    have hi := h5 i (List.mem_cons_self ..)
    cases i with
    | inRegion ops todo =>
      cases todo with
      | nil => exact ⟨fn, t, t', _, m, rfl, rfl, h3, h4, h5, h6⟩
      | cons j r =>
        refine ⟨fn, putT t ops[j]? x, putT t' ops[j]? y, .inRegion ops r :: k, m, rfl, rfl, h3, putT_vr h4 _ (.inl hv), fun z hz => ?_, h6⟩
        rcases List.mem_cons.1 hz with rfl | hz
        · exact hi
        · exact h5 z (List.mem_cons_of_mem _ hz)
    | code c => exact ⟨fn, t, t', _, m, rfl, rfl, h3, h4, h5, h6⟩
    | inBlock c => exact ⟨fn, t, t', _, m, rfl, rfl, h3, h4, h5, h6⟩
    | inLoop c => exact ⟨fn, t, t', _, m, rfl, rfl, h3, h4, h5, h6⟩
    | inScope c => exact ⟨fn, t, t', _, m, rfl, rfl, h3, h4, h5, h6⟩
    | _ => exact hi.elim
theorem step_return (main : Bool) {fn : FuncId} {t t' : Array Value} {k : List Item} {c c' : Frame} {l l' cs cs' : List Frame} (hf : C.Has fn) (ht : VPs C.Fn ρ (C.IA fn) t t') (hc : FR C Gl ρ c c') (hl : FRs C Gl ρ l l') (hw : WR C ρ w W) :
    StepR C Gl ρ W cs cs' (stepG C.P true (G (Fr fn t k .returning) (c :: l ++ cs)) w) (stepG C.P main (G (Fr fn t' k .returning) (c' :: l' ++ cs')) W) := by
  obtain ⟨g, h1, hro⟩ := hf
  have e : ∀ {t : Array Value} (main : Bool) (c : Frame) (l : List Frame) (w : World), stepG C.P main (G (Fr fn t k .returning) (c :: l)) w = (match (Go.results g t).runT C.P w #[] with
      | (r, es) => GStep.after (seen C.P fn es) (match r with
        | .ok v w => .go (G (c.finish v) l) w
        | .halt (.stuck s) w => .ended (.stuck s ((Fr fn t k .returning).pos C.P)) w
        | .halt _ w => .ended (.stuck "return: the result variables cannot be read" ((Fr fn t k .returning).pos C.P)) w)) := by
    intro t main c l w
    have : stepG C.P main (G (Fr fn t k .returning) (c :: l)) w = unwind C.P main (Fr fn t k .returning) (c :: l) none w := rfl
    rw [this]
    unfold unwind
    simp only [Fr]
    rw [h1]
    rfl
  rw [List.cons_append, List.cons_append, e, e]
  have hS := Sim.results (C := C) (fn := g) hro ht w W hw
  cases hr : (Go.results g t).runT C.P w #[] with
  | mk res es =>
    cases res with
    | halt q w1 => cases q <;> exact .ended _ _ _ _
    | ok v w1 =>
      obtain ⟨ρ', v', W1, es', hr', hv, hw1, hd⟩ := hS.2 #[] #[] v w1 es hr
      rw [hr']
      exact .goes _ (finish_vr (hc.mono hd.ext) hv) (hl.mono hd.ext) hw1 (did_seen fn hd)
theorem step_alike (hZ : Zeros C.P) (hB : Bodies C Gl) (hC : Codes C Gl) (main : Bool) {a b : Frame} {l l' cs cs' : List Frame} (hg : ∀ g, Gl g → ρ g g) (h : FR C Gl ρ a b) (hl : FRs C Gl ρ l l') (hw : WR C ρ w W) (hn : a.mode = .returning → l ≠ []) :
    StepR C Gl ρ W cs cs' (stepG C.P true (G a (l ++ cs)) w) (stepG C.P main (G b (l' ++ cs')) W) := by
  obtain ⟨fn, t, t', k, m, rfl, rfl, h3, h4, h5, h6⟩ := h
  rcases h6 with rfl | rfl
  · cases k with
    | nil => exact step_end main h3 h4 hl hw
    | cons x k =>
      by_cases hx : ∃ ops j r, x = .inRegion ops (j :: r)
      · obtain ⟨ops, j, r, rfl⟩ := hx
        cases hw' : ((ops[j]?).map (Region.wanted · (yielded ops t))).getD false with
        | false => exact step_left main h3 h4 h5 hl hw hw'
        | true =>
          cases ho : ops[j]? with
          | none => rw [ho] at hw'; cases hw'
          | some o => rw [ho] at hw'; exact step_oper hZ hB hC main hg h3 h4 h5 hl hw ho hw'
      · by_cases hr : ∃ id ops, x = .code (.region id ops true)
        · obtain ⟨id, ops, rfl⟩ := hr
          exact step_draw main h3 h4 h5 hl hw
        · exact step_ctl main hg hB.gl h3 h4 h5 hl hw (fun ops j r q => hx ⟨ops, j, r, q⟩) fun id ops q => hr ⟨id, ops, q⟩
  · cases l with
    | nil => exact absurd rfl (hn rfl)
    | cons c l =>
      cases l' with
      | nil => exact hl.elim
      | cons c' l' => exact step_return main h3 h4 hl.1 hl.2 hw
end step
end Go.Proofs.YtmbfdhekplnoaaaDoor
