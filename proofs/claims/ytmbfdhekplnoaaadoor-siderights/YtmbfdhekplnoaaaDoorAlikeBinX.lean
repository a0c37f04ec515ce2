/-
  What one operation does in the one world it does in the other that is alike: arithmetic, comparisons, conversions, len, cap, copy.
  What one entry does in the one world it does in the other that is alike: pointers and whole values compared.
  What one operation does in the one world it does in the other that is alike: operators of two operands, of one; conversions.
-/
import Derived.Test.YtmbfdhekplnoaaaDoorAlikeOps3X
namespace Go.Proofs.YtmbfdhekplnoaaaDoor
open Go

inductive NoMem {α : Type} : Sem α → Prop
  | pure (a : α) : NoMem (.pure a)
  | choose (q : Question) (k : Nat → Sem α) (h : ∀ n, NoMem (k n)) : NoMem (.choose q k)
  | program (k : Program → Sem α) (h : ∀ p, NoMem (k p)) : NoMem (.program k)
  | halt (h : Halt) (hb : Bad h := by exact trivial) : NoMem (.halt h)
section nomem
variable {C : Ctx} {ρ : Brel} {α β : Type}
theorem Sim.noMem {s : Sem α} (h : NoMem s) : ∀ {ρ : Brel}, Sim C (fun _ a b => b = a) ρ s s := by
  induction h with
  | pure a => exact Sim.pure rfl
  | choose q k h ih =>
    intro ρ
    exact Sim.bind (s := Go.choose q) (s' := Go.choose q) (Sim.choose q) fun ρ' a b _ e => by subst e; exact ih _
  | program k h ih =>
    intro ρ
    exact Sim.bind (s := Go.program) (s' := Go.program) Sim.program fun ρ' a b _ e => by obtain ⟨rfl, rfl⟩ := e; exact ih _
  | halt h hb => exact Sim.dead (Dead.halt h hb)
inductive NoMemV : Sem Value → Prop
  | pure (a : Value) (h : plainN 0 a = true) : NoMemV (.pure a)
  | choose (q : Question) (k : Nat → Sem Value) (h : ∀ n, NoMemV (k n)) : NoMemV (.choose q k)
  | program (k : Program → Sem Value) (h : ∀ p, NoMemV (k p)) : NoMemV (.program k)
  | halt (h : Halt) (hb : Bad h := by exact trivial) : NoMemV (.halt h)
theorem NoMemV.ite {c : Prop} [Decidable c] {s t : Sem Value} (h : NoMemV s) (k : NoMemV t) : NoMemV (if c then s else t) := by
  split
  · exact h
  · exact k
theorem NoMemV.nm {s : Sem Value} (h : NoMemV s) : NoMem s := by
  induction h with
  | pure a _ => exact .pure a
  | choose q k _ ih => exact .choose q k ih
  | program k _ ih => exact .program k ih
  | halt h hb => exact .halt h hb
theorem Sim.noMemV {s : Sem Value} (h : NoMemV s) : ∀ {ρ : Brel}, Sim C (fun ρ => VR C.Fn ρ) ρ s s := by
  induction h with
  | pure a ha => exact Sim.pure (plainN_vr 0 a ha)
  | choose q k h ih =>
    intro ρ
    exact Sim.bind (s := Go.choose q) (s' := Go.choose q) (Sim.choose q) fun ρ' a b _ e => by subst e; exact ih _
  | program k h ih =>
    intro ρ
    exact Sim.bind (s := Go.program) (s' := Go.program) Sim.program fun ρ' a b _ e => by obtain ⟨rfl, rfl⟩ := e; exact ih _
  | halt h hb => exact Sim.dead (Dead.halt h hb)
end nomem

section arith
variable {C : Ctx} {ρ : Brel}
theorem nm_intArith (op : BinOp) (k : IntKind) (x y : Int) : NoMemV (Op.intArith op k x y) := by
  cases op <;> first | exact .pure _ rfl | exact .halt _
theorem nm_intBits (op : BinOp) (k : IntKind) (x y : Int) : NoMemV (Op.intBits op k x y) := by
  cases op <;> first | exact .pure _ rfl | exact .halt _
theorem nm_intCmp (op : BinOp) (x y : Int) : NoMemV (Op.intCmp op x y) := by
  cases op <;> first | exact .pure _ rfl | exact .halt _
theorem Sim.intDiv (op : BinOp) (k : IntKind) (x y : Int) : Sim C (fun ρ => VR C.Fn ρ) ρ (Op.intDiv op k x y) (Op.intDiv op k x y) := by
  refine Sim.ite (fun _ => Sim.dead (Dead.runtimePanic _)) fun _ => ?_
  cases op <;> first | exact Sim.pure (.int _ _) | exact Sim.dead (Dead.stuck _)
theorem Sim.shift (op : BinOp) (k k' : IntKind) (x y : Int) : Sim C (fun ρ => VR C.Fn ρ) ρ (Op.shift op k x k' y) (Op.shift op k x k' y) := by
  refine Sim.ite (fun _ => Sim.dead (Dead.runtimePanic _)) fun _ => ?_
  cases op <;> first | exact Sim.pure (.int _ _) | exact Sim.dead (Dead.stuck _)
theorem nm_stringOp (op : BinOp) (x y : ByteArray) : NoMemV (Op.stringOp op x y) := by
  unfold Op.stringOp
  cases op <;> first | exact .pure _ rfl | exact .halt _ | exact NoMemV.ite (.halt _) (.pure _ rfl)
theorem nm_asBool (v : Value) : NoMem (Go.asBool v) := by
  cases v <;> first | exact .pure _ | exact .halt _
theorem Sim.numberAt {r s : Nat} (h : ρ r s) : Sim C (fun ρ a b => (a = none ∧ b = none) ∨ ∃ x y l, a = some (x, l) ∧ b = some (y, l) ∧ AN C.Fn ρ x y) ρ (Go.numberAt r) (Go.numberAt s) := by
  refine Sim.bind (Sim.shape h) fun ρ' a b e hb => ?_
  subst hb
  refine Sim.ite (fun _ => Sim.pure (.inl ⟨rfl, rfl⟩)) fun _ => Sim.bind (Sim.getObj (e _ _ h)) fun _ x y _ ho => ?_
  cases ho with
  | number hr hno l => exact Sim.pure (.inr ⟨_, _, l, rfl, rfl, hr, hno⟩)
  | _ => exact Sim.pure (.inl ⟨rfl, rfl⟩)
theorem Sim.behindNumber {a b : Addr} (h : AN C.Fn ρ a b) : Sim C (fun ρ p q => AN C.Fn ρ p.1 q.1 ∧ q.2 = p.2) ρ (Go.behindNumber a) (Go.behindNumber b) := by
  refine Sim.bind (Sim.numberAt h.1.1) fun ρ' x y e hb => ?_
  rcases hb with ⟨rfl, rfl⟩ | ⟨u, v, l, rfl, rfl, hr⟩
  · exact Sim.pure ⟨h.mono e, rfl⟩
  · exact Sim.pure ⟨hr, rfl⟩
theorem AR.block_eq {w W : World} (hw : WR C ρ w W) {a b c d : Addr} (h : AR ρ a b) (k : AR ρ c d) : (b.block = d.block ↔ a.block = c.block) := by
  constructor
  · intro e; exact hw.one.inj (e ▸ h.1) k.1
  · intro e; exact hw.one.fn (e ▸ h.1) k.1
theorem AR.eq {w W : World} (hw : WR C ρ w W) {a b c d : Addr} (h : AR ρ a b) (k : AR ρ c d) : (b = d ↔ a = c) := by
  obtain ⟨h1, h2, h3⟩ := h
  obtain ⟨k1, k2, k3⟩ := k
  constructor
  · rintro rfl
    have e := hw.one.inj h1 k1
    cases a; cases c; simp_all
  · rintro rfl
    have e := hw.one.fn h1 k1
    cases b; cases d; simp_all
theorem Sim.with {α β : Type} {A : Brel → α → β → Prop} {s : Sem α} {s' : Sem β} (h : ∀ w W, WR C ρ w W → Sim C A ρ s s') : Sim C A ρ s s' :=
  fun w W hw => h w W hw w W hw
/-! pointers that are reckoned with -/
theorem Sim.asNumber {a b : Addr} (h : AN C.Fn ρ a b) (l : Bool) : Sim C (fun ρ => VR C.Fn ρ) ρ (Go.asNumber a l) (Go.asNumber b l) :=
  Sim.bind (Sim.newObj (.number h.1 h.2 l) fun c e f q => by cases q) fun _ _ _ _ r => Sim.pure (ptr_vr ⟨⟨r.1, rfl, rfl⟩, r.2⟩)
theorem Sim.unsafeAddP (ts : Array TypeId) (t : TypeId) {x x' y y' : Value} (h : VR C.Fn ρ x x') (k : VR C.Fn ρ y y') : Sim C (fun ρ u v => ∃ a b, u = .pointer (some a) ∧ v = .pointer (some b) ∧ AN C.Fn ρ a b) ρ (Builtin.unsafeAdd_ ts t #[x, y]) (Builtin.unsafeAdd_ ts t #[x', y']) := by
  cases h with
  | nilPtr =>
    refine Sim.bind (Sim.asInt k) fun ρ1 n n' e1 hn => ?_
    subst hn
    refine Sim.ite (fun _ => Sim.dead (Dead.unsupported _)) fun _ => Sim.ite (fun _ => Sim.dead (Dead.bind (Dead.unsupported _))) fun _ => Sim.dead (Dead.unsupported _)
  | @ptr a b h hno =>
    refine Sim.bind (Sim.asInt k) fun ρ1 n n' e1 hn => ?_
    subst hn
    refine Sim.ite (fun _ => ?_) fun _ => Sim.ite (fun _ => Sim.dead (Dead.bind (Dead.unsupported _))) fun _ => ?_
    · refine Sim.bind (Sim.viewAt (e1 _ _ h.1)) fun ρ2 u v e2 hb => ?_
      obtain ⟨rfl, rfl⟩ := hb
      exact Sim.pure ⟨_, _, rfl, rfl, h.mono (e1.trans e2), hno⟩
    · refine Sim.bind (Sim.shape (e1 _ _ h.1)) fun ρ2 u v e2 hb => ?_
      subst hb
      cases v with
      | none => exact Sim.dead (Dead.unsupported _)
      | some z =>
        obtain ⟨el, cells⟩ := z
        refine Sim.bindK Konst.program fun p _ => ?_
        rw [h.2.1]
        split
        · exact Sim.pure ⟨_, _, rfl, rfl, ⟨e2 _ _ (e1 _ _ h.1), rfl, h.2.2⟩, hno⟩
        · exact Sim.dead (Dead.unsupported _)
  | _ => exact Sim.dead (Dead.stuck _)
theorem Sim.unsafeAdd (ts : Array TypeId) (t : TypeId) {x x' y y' : Value} (h : VR C.Fn ρ x x') (k : VR C.Fn ρ y y') : Sim C (fun ρ => VR C.Fn ρ) ρ (Builtin.unsafeAdd_ ts t #[x, y]) (Builtin.unsafeAdd_ ts t #[x', y']) := by
  intro w W hw
  obtain ⟨h1, h2⟩ := Sim.unsafeAddP ts t h k w W hw
  refine ⟨h1, fun es es' a w1 es1 hr => ?_⟩
  obtain ⟨ρ', x', W', es2, g1, g2, g3⟩ := h2 es es' a w1 es1 hr
  obtain ⟨u, v, rfl, rfl, r⟩ := g2
  exact ⟨ρ', _, W', es2, g1, ptr_vr r, g3⟩
theorem Sim.movedNumber (t : TypeId) {a a' : Option Addr} {y y' : Value} (h : AO ρ a a') (hn : ∀ b, a = some b → ¬ C.Fn.ro b.block) (k : VR C.Fn ρ y y') : Sim C (fun ρ => VR C.Fn ρ) ρ (Go.movedNumber t (.pointer a) y) (Go.movedNumber t (.pointer a') y') := by
  refine Sim.bindK (k_underlying t) fun d _ => ?_
  refine Sim.ite (fun _ => Sim.dead (Dead.bind (Dead.unsupported _))) fun _ => ?_
  cases a with
  | some a =>
    cases a' with
    | some b =>
      dsimp only
      refine Sim.bind (Sim.behindNumber ⟨h, hn _ rfl⟩) fun ρ1 p q e1 hp => Sim.bind (Sim.unsafeAddP #[] t (ptr_vr hp.1) (k.mono e1)) fun ρ2 u v e2 hv => ?_
      rw [hp.2]
      obtain ⟨_, _, rfl, rfl, hr⟩ := hv
      exact Sim.asNumber hr _
    | none => exact h.elim
  | none =>
    cases a' with
    | some b => exact h.elim
    | none => exact Sim.unsafeAdd #[] t .nilPtr k
theorem Sim.movedPointer (t : TypeId) {a a' : Option Addr} {y y' : Value} (h : AO ρ a a') (hn : ∀ b, a = some b → ¬ C.Fn.ro b.block) (k : VR C.Fn ρ y y') : Sim C (fun ρ => VR C.Fn ρ) ρ (Go.movedPointer t (.pointer a) y) (Go.movedPointer t (.pointer a') y') := by
  unfold Go.movedPointer
  cases a with
  | some a =>
    cases a' with
    | some b =>
      dsimp only
      refine Sim.bind (Sim.numberAt h.1) fun ρ1 p q e1 hp => ?_
      rcases hp with ⟨rfl, rfl⟩ | ⟨u, v, l, rfl, rfl, hr⟩
      · exact Sim.unsafeAdd #[] t (ptr_vr ⟨AR.mono h e1, hn _ rfl⟩) (k.mono e1)
      · exact Sim.dead (Dead.bind (Dead.unsupported _))
    | none => exact h.elim
  | none =>
    cases a' with
    | some b => exact h.elim
    | none => exact Sim.unsafeAdd #[] t .nilPtr k
theorem Sim.twoPlaces {a a' b b' : Addr} (h : AR ρ a a') (k : AR ρ b b') : Sim C (fun _ p q => q = p) ρ (Op.twoPlaces a b) (Op.twoPlaces a' b') := by
  refine Sim.with fun w W hw => Sim.bindK Konst.program fun p hp => ?_
  obtain rfl : p = C.P := hp.eq Is.program
  have q1 : (a'.block != b'.block) = (a.block != b.block) := by
    have := h.block_eq hw k
    simp only [bne, Bool.not_eq_eq_eq_not, Bool.not_not]
    rw [Bool.eq_iff_iff, beq_iff_eq, beq_iff_eq]; exact this
  have q2 : decide (a'.block ≥ C.P.globals.size) = decide (a.block ≥ C.P.globals.size) := by
    have hG := C.hG
    rw [decide_eq_decide]
    constructor
    · intro z
      refine Nat.le_of_not_lt fun y => ?_
      have := hw.low h.1 (.inl (by omega)); omega
    · intro z
      refine Nat.le_of_not_lt fun y => ?_
      have := hw.low h.1 (.inr (by omega)); omega
  rw [q1, q2]
  refine Sim.ite (fun _ => Sim.dead (Dead.bind (Dead.unsupported _))) fun _ => ?_
  refine Sim.bind (Sim.byteOf h) fun ρ3 x y e3 h3 => ?_
  subst h3
  refine Sim.bind (Sim.byteOf (k.mono e3)) fun ρ4 u v e4 h4 => ?_
  subst h4
  exact Sim.pure rfl
theorem Sim.addrSub (kk : IntKind) {a a' b b' : Addr} (h : AR ρ a a') (k : AR ρ b b') : Sim C (fun ρ => VR C.Fn ρ) ρ (Op.addrSub kk a b) (Op.addrSub kk a' b') := by
  refine Sim.bind (Sim.twoPlaces h k) fun ρ1 p q e1 hp => ?_
  subst hp
  exact Sim.pure (.int _ _)
theorem Sim.addrCmp (op : BinOp) {a a' b b' : Addr} (h : AR ρ a a') (k : AR ρ b b') : Sim C (fun ρ => VR C.Fn ρ) ρ (Op.addrCmp op a b) (Op.addrCmp op a' b') := by
  refine Sim.bind (Sim.twoPlaces h k) fun ρ1 p q e1 hp => ?_
  subst hp
  cases op <;> first | exact Sim.pure (.bool _) | exact Sim.dead (Dead.unsupported _)
theorem Sim.addrMod (kk : IntKind) {a a' : Addr} (h : AR ρ a a') (n : Int) : Sim C (fun ρ => VR C.Fn ρ) ρ (Op.addrMod kk a n) (Op.addrMod kk a' n) := by
  refine Sim.bind (Sim.shape h.1) fun ρ1 p q e1 hp => ?_
  subst hp
  cases q with
  | none => exact Sim.dead (Dead.unsupported _)
  | some z =>
    obtain ⟨el, cells⟩ := z
    refine Sim.bindK (k_typeInfo el) fun i _ => Sim.ite (fun _ => Sim.dead (Dead.bind (Dead.unsupported _))) fun _ => ?_
    refine Sim.bind (Sim.byteOf (h.mono e1)) fun ρ3 x y e3 h3 => ?_
    subst h3
    exact Sim.pure (.int _ _)
end arith
end Go.Proofs.YtmbfdhekplnoaaaDoor

namespace Go.Proofs.YtmbfdhekplnoaaaDoor
open Go

section eqs
variable {C : Ctx} {ρ : Brel} {w W : World}
theorem Sim.look {α β : Type} {A : Brel → α → β → Prop} {s : Sem α} {s' : Sem β} (h : ∀ w W, WR C ρ w W → ∃ x x', (∀ es, s.runT C.P w es = (.ok x w, es)) ∧ (∀ es, s'.runT C.P W es = (.ok x' W, es)) ∧ A ρ x x') : Sim C A ρ s s' := by
  intro w W hw
  obtain ⟨x, x', h1, h2, h3⟩ := h w W hw
  refine ⟨fun es g w1 es1 hr => (by rw [h1] at hr; cases hr), fun es es' a w1 es1 hr => ?_⟩
  rw [h1] at hr
  cases hr
  exact ⟨ρ, x', W, es', h2 es', h3, hw, Did.refl _ _ _ _⟩
def strB (w : World) (a : Addr) : Bool := w.frozen? a || (match w.shape? a.block with | some (_, n) => w.frozen? { block := a.block, off := n } | none => false)
def noneB (w : World) (a : Addr) : Bool := match w.shape? a.block with | some (_, 0) => true | _ => false
theorem run_stringish (P : Program) (w : World) (a : Addr) (es : Array Event) : (Go.stringish a).runT P w es = (.ok (strB w a) w, es) := by
  show ((Go.frozen a).bind _).runT P w es = _
  rw [Sem.runT_bind']
  simp only [Go.frozen, Sem.runT]
  unfold strB
  cases hf : w.frozen? a with
  | true => rfl
  | false =>
    show ((Go.shape a.block).bind _).runT P w es = _
    rw [Sem.runT_bind']
    simp only [Go.shape, Sem.runT]
    cases w.shape? a.block with
    | none => rfl
    | some z => rfl
theorem run_mayBeOne (P : Program) (w : World) (a b : Addr) (es : Array Event) : (Go.mayBeOne a b).runT P w es = (.ok ((strB w a && strB w b) || (strB w a && noneB w a) || (strB w b && noneB w b)) w, es) := by
  show ((Go.stringish a).bind _).runT P w es = _
  rw [Sem.runT_bind', run_stringish]
  simp only
  show ((Go.stringish b).bind _).runT P w es = _
  rw [Sem.runT_bind', run_stringish]
  simp only
  rfl
theorem WR.shape_eq (h : WR C ρ w W) {a b : Nat} (r : ρ a b) : W.shape? b = w.shape? a := by
  obtain ⟨o, o', h1, h2, ho⟩ := h.obj r
  unfold World.shape?
  rw [h1, h2]
  cases ho with
  | cells e hc hf => simp only [hc.1]
  | _ => rfl
theorem WR.none_eq (h : WR C ρ w W) {x y : Addr} (r : AR ρ x y) : noneB W y = noneB w x := by
  unfold noneB
  rw [h.shape_eq r.1]
theorem WR.none_fz (h : WR C ρ w W) {x : Addr} (hz : C.Fz x.block) (hn : 0 < C.fzn x.block) : noneB w x = false := by
  obtain ⟨c, e, f, q1, _, q3⟩ := h.fz _ hz
  unfold noneB World.shape?
  rw [q1]
  simp only
  split
  · rename_i q
    have := (Prod.mk.inj (Option.some.inj q)).2
    omega
  · rfl
theorem WR.shape_fz (h : WR C ρ w W) {x : Nat} (hz : C.Fz x) {e : TypeId} {n : Nat} (q : w.shape? x = some (e, n)) : n = C.fzn x := by
  obtain ⟨c, e', f, q1, _, q3⟩ := h.fz _ hz
  unfold World.shape? at q
  rw [q1] at q
  have := (Prod.mk.inj (Option.some.inj q)).2
  omega
theorem WR.str_l (h : WR C ρ w W) {x y : Addr} (r : AR ρ x y) (hs : strB w x = true) : C.Fz x.block ∧ x.off < C.fzn x.block := by
  unfold strB at hs
  rw [Bool.or_eq_true] at hs
  rcases hs with hs | hs
  · exact (h.frozen_is r).1.1 hs
  · split at hs
    · rename_i e n q
      have k := (h.frozen_is (a := { block := x.block, off := n }) (b := { block := y.block, off := n }) ⟨r.1, rfl, rfl⟩).1.1 hs
      have e2 : n = C.fzn x.block := h.shape_fz k.1 q
      have k2 : n < C.fzn x.block := k.2
      exact absurd k2 (by rw [← e2]; exact Nat.lt_irrefl _)
    · cases hs
theorem WR.str_r (h : WR C ρ w W) {x y : Addr} (r : AR ρ x y) (hs : strB W y = true) : C.Fz x.block ∧ (C.self = true → x.off < C.fzn x.block) ∧ (C.self = false → C.Fn.ro x.block) := by
  unfold strB at hs
  rw [Bool.or_eq_true] at hs
  rcases hs with hs | hs
  · exact (h.frozen_is r).2 hs
  · rw [h.shape_eq r.1] at hs
    split at hs
    · rename_i e n q
      have k := (h.frozen_is (a := { block := x.block, off := n }) (b := { block := y.block, off := n }) ⟨r.1, rfl, rfl⟩).2 hs
      refine ⟨k.1, fun s => ?_, k.2.2⟩
      have e2 : n = C.fzn x.block := h.shape_fz k.1 q
      have k2 : n < C.fzn x.block := k.2.1 s
      exact absurd k2 (by rw [← e2]; exact Nat.lt_irrefl _)
    · cases hs
theorem str_pos {x : Addr} (hn : ¬ C.Fn.ro x.block) (z : C.Fz x.block ∧ (C.self = true → x.off < C.fzn x.block) ∧ (C.self = false → C.Fn.ro x.block)) : C.self = true ∧ x.off < C.fzn x.block := by
  cases hs : C.self with
  | true => exact ⟨rfl, z.2.1 hs⟩
  | false => exact absurd (z.2.2 hs) hn
theorem Sim.mayBeOne {a a' b b' : Addr} (h : AR ρ a a') (k : AR ρ b b') (ha : ¬ C.Fn.ro a.block) (hb : ¬ C.Fn.ro b.block) (nb : ¬ ((C.Fz a.block ∧ a.off < C.fzn a.block) ∧ C.Fz b.block ∧ b.off < C.fzn b.block)) : Sim C (fun _ x y => x = false ∧ y = false) ρ (Go.mayBeOne a b) (Go.mayBeOne a' b') := by
  refine Sim.look fun w W hw => ⟨_, _, run_mayBeOne C.P w a b, run_mayBeOne C.P W a' b', ?_⟩
  have l : ((strB w a && strB w b) || (strB w a && noneB w a) || (strB w b && noneB w b)) = false := by
    cases sa : strB w a with
    | false => cases sb : strB w b with
      | false => rfl
      | true =>
        have z := hw.str_l k sb
        rw [hw.none_fz z.1 (by omega)]; rfl
    | true =>
      have z := hw.str_l h sa
      cases sb : strB w b with
      | false => rw [hw.none_fz z.1 (by omega)]; rfl
      | true => exact absurd ⟨z, hw.str_l k sb⟩ nb
  refine ⟨l, ?_⟩
  rw [hw.none_eq h, hw.none_eq k]
  cases sa' : strB W a' with
  | false => cases sb' : strB W b' with
    | false => rfl
    | true =>
      have z := hw.str_r k sb'
      have y := str_pos hb z
      rw [hw.none_fz z.1 (by omega)]; rfl
  | true =>
    have z := hw.str_r h sa'
    have z2 := str_pos ha z
    cases sb' : strB W b' with
    | false => rw [hw.none_fz z.1 (by omega)]; rfl
    | true =>
      have y := hw.str_r k sb'
      have y2 := str_pos hb y
      exact absurd ⟨⟨z.1, z2.2⟩, y.1, y2.2⟩ nb
theorem Sim.sameAddr {a a' b b' : Addr} (h : AR ρ a a') (k : AR ρ b b') (ha : ¬ C.Fn.ro a.block) (hb : ¬ C.Fn.ro b.block) : Sim C (fun _ x y => y = x) ρ (Go.sameAddr a b) (Go.sameAddr a' b') := by
  refine Sim.with fun w W hw => ?_
  unfold Go.sameAddr
  have q1 : (a'.block == b'.block) = (a.block == b.block) := by
    rw [Bool.eq_iff_iff, beq_iff_eq, beq_iff_eq]; exact h.block_eq hw k
  have q3 : (a' == b') = (a == b) := by
    rw [Bool.eq_iff_iff, beq_iff_eq, beq_iff_eq]; exact h.eq hw k
  rw [q1, q3]
  refine Sim.ite (fun _ => Sim.pure rfl) fun _ => ?_
  refine Sim.bind (Sim.frozen h) fun ρ1 fa fa' e1 m1 => Sim.bind (Sim.frozen (k.mono e1)) fun ρ2 fb fb' e2 m2 => ?_
  by_cases hf : (fa && fb) = true
  · rw [if_pos hf]; exact Sim.dead (by first | exact Dead.unsupported _ | exact Dead.bind (Dead.unsupported _))
  · have nb : ¬ ((C.Fz a.block ∧ a.off < C.fzn a.block) ∧ C.Fz b.block ∧ b.off < C.fzn b.block) := fun z => hf (by rw [Bool.and_eq_true]; exact ⟨m1.1.2 z.1, m2.1.2 z.2⟩)
    have hf' : ¬ (fa' && fb') = true := fun q => by
      rw [Bool.and_eq_true] at q
      have z := m1.2 q.1
      have y := m2.2 q.2
      exact nb ⟨⟨z.1, (str_pos ha z).2⟩, y.1, (str_pos hb y).2⟩
    rw [if_neg hf, if_neg hf']
    refine Sim.bind (Sim.noView (h.mono (e1.trans e2))) fun ρ3 _ _ e3 _ => Sim.bind (Sim.noView (k.mono ((e1.trans e2).trans e3))) fun ρ4 _ _ e4 _ => ?_
    have e := ((e1.trans e2).trans e3).trans e4
    refine Sim.bind (Sim.mayBeOne (h.mono e) (k.mono e) ha hb nb) fun ρ5 x y e5 hxy => ?_
    obtain ⟨rfl, rfl⟩ := hxy
    exact Sim.pure rfl
theorem Sim.samePointer {x x' y y' : Option Addr} (h : AO ρ x x') (k : AO ρ y y') (hx : ∀ a, x = some a → ¬ C.Fn.ro a.block) (hy : ∀ a, y = some a → ¬ C.Fn.ro a.block) : Sim C (fun _ a b => b = a) ρ (Go.samePointer x y) (Go.samePointer x' y') := by
  cases x <;> cases x' <;> first | exact h.elim | skip
  all_goals (cases y <;> cases y' <;> first | exact k.elim | exact Sim.pure rfl | exact Sim.sameAddr h k (hx _ rfl) (hy _ rfl))
theorem Sim.forL {α σ : Type} (f g : α → σ → Sem (ForInStep σ)) : ∀ (l : List α) {ρ : Brel} (s : σ), (∀ {ρ' : Brel}, Ext ρ ρ' → ∀ a ∈ l, ∀ s, Sim C (fun _ x y => y = x) ρ' (f a s) (g a s)) → Sim C (fun _ x y => y = x) ρ (forIn l s f) (forIn l s g)
  | [], ρ, s, _ => Sim.pure rfl
  | a :: l, ρ, s, h => by
    rw [List.forIn_cons, List.forIn_cons]
    refine Sim.bind (h (Ext.refl _) a (List.mem_cons_self ..) s) fun ρ1 x y e1 hxy => ?_
    subst hxy
    cases y with
    | done z => exact Sim.pure rfl
    | yield z => exact Sim.forL f g l z fun e2 b hb => h (e1.trans e2) b (List.mem_cons_of_mem _ hb)
set_option maxHeartbeats 1000000 in
theorem Sim.equalIn (d : Nat) : ∀ {ρ : Brel} (t : TypeId) {x x' y y' : Value}, VR C.Fn ρ x x' → VR C.Fn ρ y y' → Sim C (fun _ a b => b = a) ρ (Op.equalIn d t x y) (Op.equalIn d t x' y') := by
  induction d with
  | zero => intro ρ t x x' y y' h k; exact Sim.dead (Dead.unsupported _)
  | succ d ih =>
    intro ρ t x x' y y' h k
    unfold Op.equalIn
    refine Sim.bindK (k_underlying t) fun de hd => ?_
    cases de with
    | bool => cases h <;> cases k <;> first | exact Sim.pure rfl | exact Sim.dead (Dead.stuck _)
    | string => cases h <;> cases k <;> first | exact Sim.pure rfl | exact Sim.dead (Dead.stuck _)
    | int kk =>
      cases h with
      | int k1 n1 =>
        cases k with
        | int k2 n2 => exact Sim.ite (fun _ => Sim.pure rfl) fun _ => Sim.dead (Dead.stuck _)
        | ptr hk hno =>
          rcases n1 with m | m
          · cases m with
            | zero => exact Sim.pure rfl
            | succ m => exact Sim.dead (Dead.unsupported _)
          · exact Sim.dead (Dead.unsupported _)
        | nilPtr =>
          rcases n1 with m | m
          · cases m <;> exact Sim.dead (Dead.unsupported _)
          · exact Sim.dead (Dead.unsupported _)
        | _ =>
          rcases n1 with m | m
          · cases m <;> exact Sim.dead (Dead.stuck _)
          · exact Sim.dead (Dead.stuck _)
      | nilPtr => cases k <;> exact Sim.dead (Dead.unsupported _)
      | @ptr a a' ha hna =>
        cases k with
        | int k2 n2 =>
          rcases n2 with m | m
          · cases m with
            | zero => exact Sim.pure rfl
            | succ m => exact Sim.dead (Dead.unsupported _)
          · exact Sim.dead (Dead.unsupported _)
        | @ptr b b' hb hnb =>
          dsimp only
          refine Sim.bind (Sim.behindNumber ⟨ha, hna⟩) fun ρ1 p q e1 hp => ?_
          obtain ⟨a, la⟩ := p
          obtain ⟨a', la'⟩ := q
          obtain ⟨⟨ha, _⟩, _⟩ := hp
          refine Sim.bind (Sim.behindNumber ⟨AR.mono hb e1, hnb⟩) fun ρ2 p q e2 hp => ?_
          obtain ⟨b, lb⟩ := p
          obtain ⟨b', lb'⟩ := q
          obtain ⟨⟨hb, _⟩, _⟩ := hp
          dsimp only at ha hb ⊢
          have ha2 := AR.mono ha e2
          have hb2 := hb
          refine Sim.with fun w W hw => Sim.bindK Konst.program fun p hp => ?_
          obtain rfl : p = C.P := hp.eq Is.program
          have q1 : (a'.block == b'.block) = (a.block == b.block) := by
            rw [Bool.eq_iff_iff, beq_iff_eq, beq_iff_eq]; exact ha2.block_eq hw hb2
          have q2 : decide (a'.block < C.P.globals.size) = decide (a.block < C.P.globals.size) := by
            have hG := C.hG
            rw [decide_eq_decide]
            constructor
            · intro z; have := hw.low ha2.1 (.inr (by omega)); omega
            · intro z; have := hw.low ha2.1 (.inl (by omega)); omega
          have q3 : (a' == b') = (a == b) := by
            rw [Bool.eq_iff_iff, beq_iff_eq, beq_iff_eq]; exact ha2.eq hw hb2
          rw [q1, q2]
          refine Sim.ite (fun _ => ?_) fun _ => ?_
          · refine Sim.bind (Sim.byteOf ha2) fun ρ3 x y e3 h3 => ?_
            subst h3
            refine Sim.bind (Sim.byteOf (hb2.mono e3)) fun ρ4 u v e4 h4 => ?_
            subst h4
            exact Sim.pure rfl
          · refine Sim.bindK (k_typeInfo t) fun i _ => ?_
            rw [q3]
            split
            · exact Sim.ite (fun _ => Sim.pure rfl) fun _ => Sim.dead (Dead.unsupported _)
            · exact Sim.dead (Dead.unsupported _)
        | _ => exact Sim.dead (Dead.unsupported _)
      | _ => cases k <;> first | exact Sim.dead (Dead.stuck _) | exact Sim.dead (Dead.unsupported _)
    | pointer el =>
      cases h with
      | nilPtr => cases k <;> first | exact Sim.pure rfl | exact Sim.dead (Dead.stuck _)
      | @ptr a a' ha hna =>
        cases k with
        | nilPtr => exact Sim.pure rfl
        | @ptr b b' hb hnb =>
          dsimp only
          refine Sim.with fun w W hw => ?_
          have q3 : (a' == b') = (a == b) := by
            rw [Bool.eq_iff_iff, beq_iff_eq, beq_iff_eq]; exact AR.eq hw ha hb
          refine Sim.bindK (k_sizeOf el) fun n _ => ?_
          rw [q3]
          refine Sim.ite (fun _ => Sim.sameAddr ha hb hna hnb) fun _ => Sim.ite (fun _ => Sim.pure rfl) fun _ => Sim.bind (Sim.choose _) fun _ p q _ e => ?_
          subst e
          exact Sim.pure rfl
        | _ => exact Sim.dead (Dead.stuck _)
      | _ => cases k <;> exact Sim.dead (Dead.stuck _)
    | interface ms =>
      cases h with
      | nilIface => cases k <;> first | exact Sim.pure rfl | exact Sim.dead (Dead.stuck _)
      | iface tx hx =>
        cases k with
        | nilIface => exact Sim.pure rfl
        | iface ty hy =>
          dsimp only
          refine Sim.ite (fun _ => Sim.pure rfl) fun _ => Sim.bindK (k_typeInfo tx) fun i _ => Sim.ite (fun _ => Sim.dead ?_) fun _ => ih tx hx hy
          refine Dead.then (fine_of_konst Konst.program) fun p => Dead.then (fine_of_konst Konst.program) fun p2 => ?_
          have tail : Dead C (do let s ← typeStr tx; Go.runtimePanic (.error ("comparing uncomparable type " ++ s)) : Sem Bool) := by
            refine Dead.then (fine_of_konst ?_) fun _ => Dead.runtimePanic _
            refine (k_typeInfo tx).bind fun j _ => ?_
            dsimp only
            split
            · exact Konst.unsupported _
            · exact Konst.pure _
          exact Dead.ite (Dead.bind (Dead.unsupported _)) tail
        | _ => exact Sim.dead (Dead.stuck _)
      | _ => cases k <;> exact Sim.dead (Dead.stuck _)
    | struct fs =>
      cases h with
      | agg h1 h2 =>
        cases k with
        | agg k1 k2 =>
          dsimp only
          refine Sim.bindK Konst.program fun p _ => Sim.ite (fun _ => Sim.dead (Dead.bind (Dead.unsupported _))) fun _ => ?_
          rw [← Array.forIn_toList, ← Array.forIn_toList]
          refine Sim.bind (A := fun _ a b => b = a) (Sim.forL _ _ _ _ fun {ρ'} e f hf s => ?_) fun ρ1 x y _ e => ?_
          · refine Sim.ite (fun _ => ?_) fun _ => Sim.pure rfl
            refine Sim.bind (Sim.part f.type (VRs.mono ⟨h1, h2⟩ e) f.offset) fun ρ2 u u' e2 hu => Sim.bind (Sim.part f.type (VRs.mono ⟨k1, k2⟩ (e.trans e2)) f.offset) fun ρ3 v v' e3 hv => Sim.bind (ih f.type (hu.mono e3) hv) fun ρ4 a b e4 hab => ?_
            subst hab
            exact Sim.ite (fun _ => Sim.pure rfl) fun _ => Sim.pure rfl
          · subst e
            cases y.1 <;> exact Sim.pure rfl
        | _ => exact Sim.dead (Dead.stuck _)
      | _ => cases k <;> exact Sim.dead (Dead.stuck _)
    | array n el =>
      cases h with
      | agg h1 h2 =>
        cases k with
        | agg k1 k2 =>
          dsimp only
          refine Sim.bindK (k_sizeOf el) fun sz _ => ?_
          rw [Std.Legacy.Range.forIn_eq_forIn_range', Std.Legacy.Range.forIn_eq_forIn_range']
          refine Sim.bind (A := fun _ a b => b = a) (Sim.forL _ _ _ _ fun {ρ'} e i hi s => ?_) fun ρ1 x y _ e => ?_
          · refine Sim.bind (Sim.part el (VRs.mono ⟨h1, h2⟩ e) (i * sz)) fun ρ2 u u' e2 hu => Sim.bind (Sim.part el (VRs.mono ⟨k1, k2⟩ (e.trans e2)) (i * sz)) fun ρ3 v v' e3 hv => Sim.bind (ih el (hu.mono e3) hv) fun ρ4 a b e4 hab => ?_
            subst hab
            exact Sim.ite (fun _ => Sim.pure rfl) fun _ => Sim.pure rfl
          · subst e
            cases y.1 <;> exact Sim.pure rfl
        | _ => exact Sim.dead (Dead.stuck _)
      | _ => cases k <;> exact Sim.dead (Dead.stuck _)
    | unsafePointer =>
      cases h with
      | nilPtr => cases k with
        | nilPtr => exact Sim.samePointer (x := none) (x' := none) (y := none) (y' := none) trivial trivial (fun _ q => by cases q) (fun _ q => by cases q)
        | ptr hb hnb => exact Sim.samePointer (x := none) (x' := none) (y := some _) (y' := some _) trivial hb (fun _ q => by cases q) (fun _ q => by cases q; exact hnb)
        | _ => exact Sim.dead (Dead.stuck _)
      | ptr ha hna => cases k with
        | nilPtr => exact Sim.samePointer (x := some _) (x' := some _) (y := none) (y' := none) ha trivial (fun _ q => by cases q; exact hna) (fun _ q => by cases q)
        | ptr hb hnb => exact Sim.samePointer (x := some _) (x' := some _) (y := some _) (y' := some _) ha hb (fun _ q => by cases q; exact hna) (fun _ q => by cases q; exact hnb)
        | _ => exact Sim.dead (Dead.stuck _)
      | _ => cases k <;> exact Sim.dead (Dead.stuck _)
    | slice el => cases h <;> cases k <;> first | exact Sim.pure rfl | exact Sim.dead (Dead.stuck _)
    | map a b => cases h <;> cases k <;> first | exact Sim.pure rfl | exact Sim.dead (Dead.stuck _)
    | chan a b => cases h <;> cases k <;> first | exact Sim.pure rfl | exact Sim.dead (Dead.stuck _)
    | func a b c => cases h <;> cases k <;> first | exact Sim.pure rfl | exact Sim.dead (Dead.stuck _)
    | _ => cases h <;> cases k <;> exact Sim.dead (Dead.stuck _)
theorem Sim.equal (t : TypeId) {x x' y y' : Value} (h : VR C.Fn ρ x x') (k : VR C.Fn ρ y y') : Sim C (fun _ a b => b = a) ρ (Op.equal t x y) (Op.equal t x' y') := Sim.equalIn Op.maxDepth t h k
theorem guard_l (d : Nat) (t : TypeId) {x : Value} (y : Value) (h : jk x = true) : Op.eqGuardIn (d + 1) t x y = (Go.underlying t >>= fun _ => pure false) := by
  unfold Op.eqGuardIn
  congr 1
  funext de
  cases de <;> cases x <;> first | rfl | cases h
theorem guard_r (d : Nat) (t : TypeId) (x : Value) {y : Value} (h : jk y = true) : Op.eqGuardIn (d + 1) t x y = (Go.underlying t >>= fun _ => pure false) := by
  unfold Op.eqGuardIn
  congr 1
  funext de
  cases y <;> first | (cases de <;> first | rfl | (cases x <;> rfl)) | cases h
theorem Sim.eqGuardIn (d : Nat) : ∀ {ρ : Brel} (t : TypeId) {x x' y y' : Value}, VR C.Fn ρ x x' → VR C.Fn ρ y y' → Sim C (fun _ a b => b = a) ρ (Op.eqGuardIn d t x y) (Op.eqGuardIn d t x' y') := by
  induction d with
  | zero => intro ρ t x x' y y' h k; exact Sim.dead (Dead.unsupported _)
  | succ d ih =>
    intro ρ t x x' y y' h k
    by_cases jx : x = undef ∧ jk x' = true
    · obtain ⟨rfl, jx⟩ := jx
      rw [guard_l d t y' jx, guard_l d t y (x := undef) rfl]
      exact Sim.bindK (k_underlying t) fun de hd => Sim.pure rfl
    by_cases jy : y = undef ∧ jk y' = true
    · obtain ⟨rfl, jy⟩ := jy
      rw [guard_r d t x' jy, guard_r d t x (y := undef) rfl]
      exact Sim.bindK (k_underlying t) fun de hd => Sim.pure rfl
    unfold Op.eqGuardIn
    refine Sim.bindK (k_underlying t) fun de hd => ?_
    cases de with
    | interface ms => cases h <;> first | (exact absurd ⟨rfl, by assumption⟩ jx) | (cases k <;> first | exact Sim.pure rfl | exact absurd ⟨rfl, by assumption⟩ jy)
    | struct fs =>
      cases h with
      | agg h1 h2 =>
        cases k with
        | agg k1 k2 =>
          dsimp only
          rw [← Array.forIn_toList, ← Array.forIn_toList]
          refine Sim.bind (A := fun _ a b => b = a) (Sim.forL _ _ _ _ fun {ρ'} e f hf s => ?_) fun ρ1 x y _ e => ?_
          · refine Sim.ite (fun _ => ?_) fun _ => Sim.pure rfl
            refine Sim.bind (Sim.part f.type (VRs.mono ⟨h1, h2⟩ e) f.offset) fun ρ2 u u' e2 hu => Sim.bind (Sim.part f.type (VRs.mono ⟨k1, k2⟩ (e.trans e2)) f.offset) fun ρ3 v v' e3 hv => Sim.bind (ih f.type (hu.mono e3) hv) fun ρ4 a b e4 hab => ?_
            subst hab
            exact Sim.ite (fun _ => Sim.pure rfl) fun _ => Sim.pure rfl
          · subst e
            cases y.1 <;> exact Sim.pure rfl
        | junk hj => exact absurd ⟨rfl, hj⟩ jy
        | _ => exact Sim.pure rfl
      | junk hj => exact absurd ⟨rfl, hj⟩ jx
      | _ => cases k <;> first | exact Sim.pure rfl | exact absurd ⟨rfl, by assumption⟩ jy
    | array n el =>
      cases h with
      | agg h1 h2 =>
        cases k with
        | agg k1 k2 =>
          dsimp only
          refine Sim.bindK (k_sizeOf el) fun sz _ => ?_
          rw [Std.Legacy.Range.forIn_eq_forIn_range', Std.Legacy.Range.forIn_eq_forIn_range']
          refine Sim.bind (A := fun _ a b => b = a) (Sim.forL _ _ _ _ fun {ρ'} e i hi s => ?_) fun ρ1 x y _ e => ?_
          · refine Sim.bind (Sim.part el (VRs.mono ⟨h1, h2⟩ e) (i * sz)) fun ρ2 u u' e2 hu => Sim.bind (Sim.part el (VRs.mono ⟨k1, k2⟩ (e.trans e2)) (i * sz)) fun ρ3 v v' e3 hv => Sim.bind (ih el (hu.mono e3) hv) fun ρ4 a b e4 hab => ?_
            subst hab
            exact Sim.ite (fun _ => Sim.pure rfl) fun _ => Sim.pure rfl
          · subst e
            cases y.1 <;> exact Sim.pure rfl
        | junk hj => exact absurd ⟨rfl, hj⟩ jy
        | _ => exact Sim.pure rfl
      | junk hj => exact absurd ⟨rfl, hj⟩ jx
      | _ => cases k <;> first | exact Sim.pure rfl | exact absurd ⟨rfl, by assumption⟩ jy
    | _ => exact Sim.pure rfl
end eqs
end Go.Proofs.YtmbfdhekplnoaaaDoor

namespace Go.Proofs.YtmbfdhekplnoaaaDoor
open Go

section bin
variable {C : Ctx} {ρ : Brel}
theorem Sim.cmpEq (t : TypeId) {x x' y y' : Value} (h : VR C.Fn ρ x x') (k : VR C.Fn ρ y y') (f : Bool → Bool) : Sim C (fun ρ => VR C.Fn ρ) ρ (do Pure.pure (.bool (f (← Op.equal t x y)))) (do Pure.pure (.bool (f (← Op.equal t x' y')))) :=
  Sim.bind (Sim.equal t h k) fun _ _ _ _ e => by subst e; exact Sim.pure (.bool _)
def other : Value → Bool
  | .int .. | .float .. | .complex .. | .string _ => false
  | _ => true
theorem binOp_eql (t : TypeId) (x y : Value) (h : (other x || other y) = true) : Go.binOp .eql t x y = (do Pure.pure (.bool (id (← Op.equal t x y)))) := by
  cases x <;> cases y <;> first | rfl | cases h
theorem binOp_neq (t : TypeId) (x y : Value) (h : (other x || other y) = true) : Go.binOp .neq t x y = (do Pure.pure (.bool (not (← Op.equal t x y)))) := by
  cases x <;> cases y <;> first | rfl | cases h
theorem binOp_eql2 (t : TypeId) (k : IntKind) (n : Int) (s : ByteArray) : Go.binOp .eql t (.int k n) (.string s) = (do Pure.pure (.bool (id (← Op.equal t (.int k n) (.string s))))) := rfl
theorem binOp_eql3 (t : TypeId) (k : IntKind) (n : Int) (s : ByteArray) : Go.binOp .eql t (.string s) (.int k n) = (do Pure.pure (.bool (id (← Op.equal t (.string s) (.int k n))))) := rfl
theorem binOp_neq2 (t : TypeId) (k : IntKind) (n : Int) (s : ByteArray) : Go.binOp .neq t (.int k n) (.string s) = (do Pure.pure (.bool (not (← Op.equal t (.int k n) (.string s))))) := rfl
theorem binOp_neq3 (t : TypeId) (k : IntKind) (n : Int) (s : ByteArray) : Go.binOp .neq t (.string s) (.int k n) = (do Pure.pure (.bool (not (← Op.equal t (.string s) (.int k n))))) := rfl
theorem dead_equalIn_l (d : Nat) (t : TypeId) (y : Value) : Dead C (Op.equalIn d t undef y) := by
  cases d with
  | zero => exact Dead.unsupported _
  | succ d =>
    unfold Op.equalIn
    refine Dead.then (fine_of_konst (k_underlying t)) fun de => ?_
    cases de <;> cases y <;> first | exact Dead.stuck _ | exact Dead.unsupported _
theorem dead_equalIn_r (d : Nat) (t : TypeId) (x : Value) : Dead C (Op.equalIn d t x undef) := by
  cases d with
  | zero => exact Dead.unsupported _
  | succ d =>
    unfold Op.equalIn
    refine Dead.then (fine_of_konst (k_underlying t)) fun de => ?_
    cases x with
    | pointer a => cases a <;> cases de <;> first | exact Dead.stuck _ | exact Dead.unsupported _
    | slice a l c => cases a <;> cases de <;> exact Dead.stuck _
    | map a => cases a <;> cases de <;> exact Dead.stuck _
    | _ => cases de <;> exact Dead.stuck _
theorem VR.kind {Fn : FnR} {x x' : Value} (h : VR Fn ρ x x') : (∃ k n, x = .int k n ∧ x' = .int k n) ∨ (∃ s, x = .string s ∧ x' = .string s) ∨ (other x = true ∧ other x' = true) ∨ x = Go.undef := by
  cases h <;> first | exact .inl ⟨_, _, rfl, rfl⟩ | exact .inr (.inl ⟨_, rfl, rfl⟩) | exact .inr (.inr (.inl ⟨rfl, rfl⟩)) | exact .inr (.inr (.inr rfl))
theorem Sim.binEq (t : TypeId) {x x' y y' : Value} (h : VR C.Fn ρ x x') (k : VR C.Fn ρ y y') : Sim C (fun ρ => VR C.Fn ρ) ρ (Go.binOp .eql t x y) (Go.binOp .eql t x' y') := by
  rcases h.kind with ⟨k1, n1, rfl, rfl⟩ | ⟨s1, rfl, rfl⟩ | ⟨o1, o2⟩ | rfl
  · rcases k.kind with ⟨k2, n2, rfl, rfl⟩ | ⟨s2, rfl, rfl⟩ | ⟨p1, p2⟩ | rfl
    · exact Sim.noMemV (NoMemV.ite (.halt _) (nm_intCmp _ _ _))
    · rw [binOp_eql2]; exact Sim.cmpEq t h k id
    · rw [binOp_eql _ _ _ (by rw [p1, Bool.or_true]), binOp_eql _ _ _ (by rw [p2, Bool.or_true])]; exact Sim.cmpEq t h k id
    · rw [binOp_eql _ _ undef (by rw [show other undef = true from rfl, Bool.or_true])]; exact Sim.dead (Dead.bind (dead_equalIn_r _ t _))
  · rcases k.kind with ⟨k2, n2, rfl, rfl⟩ | ⟨s2, rfl, rfl⟩ | ⟨p1, p2⟩ | rfl
    · rw [binOp_eql3]; exact Sim.cmpEq t h k id
    · exact Sim.noMemV (nm_stringOp .eql s1 s2)
    · rw [binOp_eql _ _ _ (by rw [p1, Bool.or_true]), binOp_eql _ _ _ (by rw [p2, Bool.or_true])]; exact Sim.cmpEq t h k id
    · rw [binOp_eql _ _ undef (by rw [show other undef = true from rfl, Bool.or_true])]; exact Sim.dead (Dead.bind (dead_equalIn_r _ t _))
  · rw [binOp_eql _ _ _ (by rw [o1, Bool.true_or]), binOp_eql _ _ _ (by rw [o2, Bool.true_or])]; exact Sim.cmpEq t h k id
  · rw [binOp_eql _ undef _ (by rw [show other undef = true from rfl, Bool.true_or])]; exact Sim.dead (Dead.bind (dead_equalIn_l _ t _))
theorem Sim.binNe (t : TypeId) {x x' y y' : Value} (h : VR C.Fn ρ x x') (k : VR C.Fn ρ y y') : Sim C (fun ρ => VR C.Fn ρ) ρ (Go.binOp .neq t x y) (Go.binOp .neq t x' y') := by
  rcases h.kind with ⟨k1, n1, rfl, rfl⟩ | ⟨s1, rfl, rfl⟩ | ⟨o1, o2⟩ | rfl
  · rcases k.kind with ⟨k2, n2, rfl, rfl⟩ | ⟨s2, rfl, rfl⟩ | ⟨p1, p2⟩ | rfl
    · exact Sim.noMemV (NoMemV.ite (.halt _) (nm_intCmp _ _ _))
    · rw [binOp_neq2]; exact Sim.cmpEq t h k not
    · rw [binOp_neq _ _ _ (by rw [p1, Bool.or_true]), binOp_neq _ _ _ (by rw [p2, Bool.or_true])]; exact Sim.cmpEq t h k not
    · rw [binOp_neq _ _ undef (by rw [show other undef = true from rfl, Bool.or_true])]; exact Sim.dead (Dead.bind (dead_equalIn_r _ t _))
  · rcases k.kind with ⟨k2, n2, rfl, rfl⟩ | ⟨s2, rfl, rfl⟩ | ⟨p1, p2⟩ | rfl
    · rw [binOp_neq3]; exact Sim.cmpEq t h k not
    · exact Sim.noMemV (nm_stringOp .neq s1 s2)
    · rw [binOp_neq _ _ _ (by rw [p1, Bool.or_true]), binOp_neq _ _ _ (by rw [p2, Bool.or_true])]; exact Sim.cmpEq t h k not
    · rw [binOp_neq _ _ undef (by rw [show other undef = true from rfl, Bool.or_true])]; exact Sim.dead (Dead.bind (dead_equalIn_r _ t _))
  · rw [binOp_neq _ _ _ (by rw [o1, Bool.true_or]), binOp_neq _ _ _ (by rw [o2, Bool.true_or])]; exact Sim.cmpEq t h k not
  · rw [binOp_neq _ undef _ (by rw [show other undef = true from rfl, Bool.true_or])]; exact Sim.dead (Dead.bind (dead_equalIn_l _ t _))
set_option maxHeartbeats 4000000 in
theorem Sim.binOp (op : BinOp) (t : TypeId) {x x' y y' : Value} (h : VR C.Fn ρ x x') (k : VR C.Fn ρ y y') : Sim C (fun ρ => VR C.Fn ρ) ρ (Go.binOp op t x y) (Go.binOp op t x' y') := by
  by_cases hq : op = .eql ∨ op = .neq
  · rcases hq with rfl | rfl
    · exact Sim.binEq t h k
    · exact Sim.binNe t h k
  · have n1 : op ≠ .eql := fun e => hq (.inl e)
    have n2 : op ≠ .neq := fun e => hq (.inr e)
    clear hq
    cases h with
    | int k1 a =>
      cases k with
      | int k2 b =>
        cases op
        all_goals first
          | exact absurd rfl n1
          | exact absurd rfl n2
          | exact Sim.shift .shl k1 k2 a b
          | exact Sim.shift .shr k1 k2 a b
          | exact Sim.ite (fun _ => Sim.dead (Dead.stuck _)) fun _ => Sim.noMemV (nm_intArith _ _ _ _)
          | exact Sim.ite (fun _ => Sim.dead (Dead.stuck _)) fun _ => Sim.intDiv _ _ _ _
          | exact Sim.ite (fun _ => Sim.dead (Dead.stuck _)) fun _ => Sim.noMemV (nm_intBits _ _ _ _)
          | exact Sim.ite (fun _ => Sim.dead (Dead.stuck _)) fun _ => Sim.noMemV (nm_intCmp _ _ _)
      | nilPtr =>
        cases op <;> first
          | exact absurd rfl n1
          | exact absurd rfl n2
          | exact Sim.movedNumber t (a := none) (a' := none) trivial (fun _ q => by cases q) (.int k1 a)
          | exact Sim.dead (Dead.unsupported _)
      | ptr hb hnb =>
        cases op <;> first
          | exact absurd rfl n1
          | exact absurd rfl n2
          | exact Sim.movedNumber t (a := some _) (a' := some _) hb (fun _ q => by cases q; exact hnb) (.int k1 a)
          | exact Sim.bind (Sim.behindNumber ⟨hb, hnb⟩) fun _ _ _ _ hp => Sim.addrMod _ hp.1.1 _
          | exact Sim.dead (Dead.unsupported _)
      | _ => cases op <;> first | exact absurd rfl n1 | exact absurd rfl n2 | exact Sim.dead (Dead.stuck _)
    | string s =>
      cases k with
      | string u =>
        have e : ∀ op, Go.binOp op t (.string s) (.string u) = Op.stringOp op s u := fun op => by cases op <;> rfl
        rw [e]; exact Sim.noMemV (nm_stringOp op s u)
      | nilPtr => cases op <;> first | exact absurd rfl n1 | exact absurd rfl n2 | exact Sim.dead (Dead.unsupported _)
      | ptr hb hnb => cases op <;> first | exact absurd rfl n1 | exact absurd rfl n2 | exact Sim.dead (Dead.unsupported _)
      | _ => cases op <;> first | exact absurd rfl n1 | exact absurd rfl n2 | exact Sim.dead (Dead.stuck _)
    | nilPtr =>
      cases k with
      | int k2 b =>
        cases op <;> first
          | exact absurd rfl n1
          | exact absurd rfl n2
          | exact Sim.dead (Dead.unsupported _)
          | exact Sim.movedNumber t (a := none) (a' := none) trivial (fun _ q => by cases q) (.int k2 _)
          | exact Sim.bindK (k_underlying t) fun d _ => Sim.ite (fun _ => Sim.movedPointer t (a := none) (a' := none) trivial (fun _ q => by cases q) (.int k2 b)) fun _ => Sim.movedNumber t (a := none) (a' := none) trivial (fun _ q => by cases q) (.int k2 b)
      | _ => cases op <;> first | exact absurd rfl n1 | exact absurd rfl n2 | exact Sim.dead (Dead.unsupported _)
    | ptr ha hna =>
      cases k with
      | int k2 b =>
        cases op <;> first
          | exact absurd rfl n1
          | exact absurd rfl n2
          | exact Sim.dead (Dead.unsupported _)
          | exact Sim.movedNumber t (a := some _) (a' := some _) ha (fun _ q => by cases q; exact hna) (.int k2 _)
          | exact Sim.bind (Sim.behindNumber ⟨ha, hna⟩) fun _ _ _ _ hp => Sim.addrMod _ hp.1.1 _
          | exact Sim.bindK (k_underlying t) fun d _ => Sim.ite (fun _ => Sim.movedPointer t (a := some _) (a' := some _) ha (fun _ q => by cases q; exact hna) (.int k2 b)) fun _ => Sim.movedNumber t (a := some _) (a' := some _) ha (fun _ q => by cases q; exact hna) (.int k2 b)
      | ptr hb hnb =>
        cases op <;> first
          | exact absurd rfl n1
          | exact absurd rfl n2
          | exact Sim.dead (Dead.unsupported _)
          | exact Sim.bind (Sim.behindNumber ⟨ha, hna⟩) fun _ _ _ e1 hp => Sim.bind (Sim.behindNumber ⟨hb.mono e1, hnb⟩) fun _ _ _ e2 hq => Sim.addrSub _ (hp.1.1.mono e2) hq.1.1
          | exact Sim.bind (Sim.behindNumber ⟨ha, hna⟩) fun _ _ _ e1 hp => Sim.bind (Sim.behindNumber ⟨hb.mono e1, hnb⟩) fun _ _ _ e2 hq => Sim.addrCmp _ (hp.1.1.mono e2) hq.1.1
      | _ => cases op <;> first | exact absurd rfl n1 | exact absurd rfl n2 | exact Sim.dead (Dead.unsupported _)
    | _ =>
      cases k with
      | nilPtr => cases op <;> first | exact absurd rfl n1 | exact absurd rfl n2 | exact Sim.dead (Dead.unsupported _)
      | ptr hb hnb => cases op <;> first | exact absurd rfl n1 | exact absurd rfl n2 | exact Sim.dead (Dead.unsupported _)
      | _ => cases op <;> first | exact absurd rfl n1 | exact absurd rfl n2 | exact Sim.dead (Dead.stuck _)
end bin
end Go.Proofs.YtmbfdhekplnoaaaDoor
