/-
  What one operation does in the one world it does in the other that is alike: addresses, slices, structs, arithmetic, append.
  What one operation does in the one world it does in the other that is alike: slices, structs that are built, append.
  What one operation does in the one world it does in the other that is alike: append, len, cap, copy; arithmetic and conversions.
-/
import Derived.Test.YtmbfdhekplnoaaaDoorAlikeLibX
namespace Go.Proofs.YtmbfdhekplnoaaaDoor
open Go

section places
variable {C : Ctx} {ρ : Brel}
theorem Dead.ite {α : Type} {c : Prop} [Decidable c] {s t : Sem α} (h : Dead C s) (k : Dead C t) : Dead C (if c then s else t) := by
  split
  · exact h
  · exact k
theorem Sim.viewAt {r s : Nat} (h : ρ r s) : Sim C (fun _ a b => a = none ∧ b = none) ρ (Go.viewAt r) (Go.viewAt s) := by
  refine Sim.bind (Sim.shape h) fun ρ' a b e hb => ?_
  subst hb
  refine Sim.ite (fun _ => Sim.pure ⟨rfl, rfl⟩) fun _ => Sim.bind (Sim.getObj (e _ _ h)) fun _ x y _ ho => ?_
  cases ho <;> exact Sim.pure ⟨rfl, rfl⟩
theorem Sim.noView {a b : Addr} (h : AR ρ a b) : Sim C (fun _ _ _ => True) ρ (Go.noView a) (Go.noView b) := by
  refine Sim.bind (Sim.viewAt h.1) fun ρ' x y e hb => ?_
  obtain ⟨rfl, rfl⟩ := hb
  exact Sim.pure trivial
theorem Sim.byteOf {a b : Addr} (h : AR ρ a b) : Sim C (fun _ x y => y = x) ρ (Go.byteOf a) (Go.byteOf b) := by
  unfold Go.byteOf
  rw [h.2.2]
  cases a.spot with
  | some s => exact Sim.pure rfl
  | none =>
    refine Sim.bindK Konst.program fun p _ => Sim.bind (Sim.noView h) fun ρ1 _ _ e _ => Sim.bind (Sim.shape (e _ _ h.1)) fun ρ2 x y _ hb => ?_
    subst hb
    rw [h.2.1]
    cases y with
    | none => exact Sim.dead (Dead.stuck _)
    | some z =>
      obtain ⟨el, n⟩ := z
      simp only
      refine Sim.ite (fun _ => Sim.pure rfl) fun _ => ?_
      cases byteOfCell p p.depth el (a.off % p.cellsOf el) with
      | none => exact Sim.dead (Dead.stuck _)
      | some q => exact Sim.pure rfl
theorem Sim.partAt {a b : Addr} (h : AR ρ a b) (c n : Nat) : Sim C (fun ρ p q => AR ρ p q ∧ p.block = a.block) ρ (Go.partAt a c n) (Go.partAt b c n) := by
  refine Sim.bind (Sim.byteOf h) fun ρ1 x y e hb => ?_
  subst hb
  have h1 : AR ρ1 { block := a.block, off := a.off + c } { block := b.block, off := b.off + c } := ⟨e _ _ h.1, by simp [h.2.1], rfl⟩
  refine Sim.bind (Sim.byteOf h1) fun ρ2 u v e2 hb => ?_
  subst hb
  refine Sim.pure ?_
  split
  · exact ⟨h1.mono e2, rfl⟩
  · exact ⟨⟨(h1.mono e2).1, by simp [h.2.1], rfl⟩, rfl⟩
theorem add_block (a : Addr) (n : Nat) : (a.add n).block = a.block := by
  unfold Addr.add
  split <;> rfl
theorem Sim.fieldPlace {a b : Addr} (h : AR ρ a b) (f : Field) : Sim C (fun ρ p q => AR ρ p q ∧ p.block = a.block) ρ (Go.fieldPlace a f) (Go.fieldPlace b f) :=
  Sim.bindK (k_sizeOf _) fun _ _ => Sim.ite (fun _ => Sim.partAt h _ _) fun _ => Sim.pure ⟨h.add _, add_block _ _⟩
theorem ptr_vr {Fn : FnR} {a b : Addr} (h : AN Fn ρ a b) : VR Fn ρ (.pointer (some a)) (.pointer (some b)) := .ptr h.1 h.2
theorem AN.mono {Fn : FnR} {ρ ρ' : Brel} {a b : Addr} (h : AN Fn ρ a b) (e : Ext ρ ρ') : AN Fn ρ' a b := ⟨h.1.mono e, h.2⟩
theorem slice_vr {Fn : FnR} {a b : Addr} (h : AR ρ a b) (n c : Nat) : VR Fn ρ (.slice (some a) n c) (.slice (some b) n c) := .sl h n c
theorem int_vr {Fn : FnR} (n : Int) : VR Fn ρ (goInt n) (goInt n) := .int _ _
theorem Sim.loadAt (t : TypeId) {x y : Value} (h : VP C.Fn ρ x y) : Sim C (fun ρ => VR C.Fn ρ) ρ (Instr.loadAt t x) (Instr.loadAt t y) :=
  Sim.bind (Sim.sureAddr h) fun _ _ _ _ r => Sim.loadVar t r
theorem Sim.storeAt (t : TypeId) {x y u v : Value} (h : VP C.Fn ρ x y) (k : VR C.Fn ρ u v) : Sim C (fun _ _ _ => True) ρ (Instr.storeAt t x u) (Instr.storeAt t y v) :=
  Sim.bind (Sim.sureAddr h) fun _ _ _ e r => Sim.storeVar t r (k.mono e)
theorem Sim.fieldAtA (t : TypeId) {a b : Addr} (h : AR ρ a b) (f : Nat) : Sim C (fun ρ u v => ∃ p q, u = .pointer (some p) ∧ v = .pointer (some q) ∧ AR ρ p q ∧ p.block = a.block) ρ (Instr.fieldAt t (.pointer (some a)) f) (Instr.fieldAt t (.pointer (some b)) f) := by
  refine Sim.bindK (k_underlying t) fun d _ => ?_
  cases d with
  | struct fs =>
    simp only
    cases fs[f]? with
    | none => exact Sim.dead (Dead.stuck _)
    | some g => exact Sim.bind (A := fun ρ p q => AR ρ p q ∧ p = a) (Sim.pure ⟨h, rfl⟩) fun _ p q _ r => Sim.bind (Sim.fieldPlace r.1 g) fun _ _ _ _ s => Sim.pure ⟨_, _, rfl, rfl, s.1, s.2.trans (by rw [r.2])⟩
  | _ => exact Sim.dead (Dead.stuck _)
theorem Sim.fieldAt (t : TypeId) {x y : Value} (h : VR C.Fn ρ x y) (f : Nat) : Sim C (fun ρ => VR C.Fn ρ) ρ (Instr.fieldAt t x f) (Instr.fieldAt t y f) := by
  cases h with
  | ptr h hn => exact (Sim.fieldAtA t h f).mono fun _ u v _ ⟨p, q, e1, e2, e3, e4⟩ => by subst e1 e2; exact .ptr e3 (by rw [e4]; exact hn)
  | _ =>
    refine Sim.bindK (k_underlying t) fun d _ => ?_
    cases d with
    | struct fs =>
      simp only
      cases fs[f]? with
      | none => exact Sim.dead (Dead.stuck _)
      | some g => exact Sim.dead (Dead.bind (Dead.halt _))
    | _ => exact Sim.dead (Dead.stuck _)
theorem Sim.fieldAtP (t : TypeId) {x y : Value} (h : RP C.Fn ρ x y) (f : Nat) : Sim C (fun ρ => RP C.Fn ρ) ρ (Instr.fieldAt t x f) (Instr.fieldAt t y f) := by
  obtain ⟨a, b, rfl, rfl, h, hr⟩ := h
  exact (Sim.fieldAtA t h f).mono fun _ u v _ ⟨p, q, e1, e2, e3, e4⟩ => ⟨p, q, e1, e2, e3, by rw [e4]; exact hr⟩
theorem Sim.alloc (hZ : Zeros C.P) {t : TypeId} (ht : t < C.P.types.size) : Sim C (fun ρ => VR C.Fn ρ) ρ (Instr.alloc t true (.tuple #[])) (Instr.alloc t true (.tuple #[])) :=
  Sim.bindK (k_zeroValue t) fun _ hz => Sim.bind (Sim.newVar t (zero_vr hZ ht hz)) fun _ _ _ _ r => Sim.pure (ptr_vr r)
theorem Sim.box (t : TypeId) {x y : Value} (h : VR C.Fn ρ x y) : Sim C (fun ρ => VR C.Fn ρ) ρ (Instr.box t x) (Instr.box t y) :=
  Sim.bind (Sim.newVar t h) fun _ _ _ _ r => Sim.pure (ptr_vr r)
theorem Sim.extract {x y : Value} (h : VR C.Fn ρ x y) (i : Nat) : Sim C (fun ρ => VR C.Fn ρ) ρ (Instr.extract x i) (Instr.extract y i) := by
  cases h with
  | @tuple xs ys h1 h2 =>
    unfold Instr.extract
    simp only
    cases hx : xs[i]? with
    | none => exact Sim.dead (Dead.stuck _)
    | some v =>
      obtain ⟨v', e1, e2⟩ := VRs.at ⟨h1, h2⟩ hx
      rw [e1]
      exact Sim.pure e2
  | _ => exact Sim.dead (Dead.stuck _)
theorem Sim.field (t : TypeId) {x y : Value} (h : VR C.Fn ρ x y) (f : Nat) : Sim C (fun ρ => VR C.Fn ρ) ρ (Instr.field t x f) (Instr.field t y f) := by
  refine Sim.bindK (k_underlying t) fun d _ => ?_
  cases d with
  | struct fs =>
    simp only
    cases fs[f]? with
    | none => exact Sim.dead (Dead.stuck _)
    | some g => exact Sim.bind (Sim.asAgg h) fun _ _ _ _ r => Sim.part _ r _
  | _ => exact Sim.dead (Dead.stuck _)
theorem Sim.makeInterface (t : TypeId) {x y : Value} (h : VR C.Fn ρ x y) : Sim C (fun ρ => VR C.Fn ρ) ρ (Instr.makeInterface t x) (Instr.makeInterface t y) := by
  refine Sim.bindK (k_underlying t) fun d _ => ?_
  cases d <;> first | exact Sim.dead (Dead.stuck _) | exact Sim.pure (.iface t h)
theorem Sim.indexAt (t : TypeId) {x y u v : Value} (h : VR C.Fn ρ x y) (k : VR C.Fn ρ u v) : Sim C (fun ρ => VP C.Fn ρ) ρ (Instr.indexAt t x u) (Instr.indexAt t y v) := by
  refine Sim.bind (Sim.asIntOf k) fun ρ1 a b e hb => ?_
  subst hb
  obtain ⟨kk, i⟩ := b
  refine Sim.bindK (k_underlying t) fun d _ => ?_
  cases d with
    | array n el =>
      dsimp only
      refine Sim.bind (Sim.sureAddr (.inl (h.mono e))) fun ρ2 a b e2 r => ?_
      refine Sim.bind (A := fun ρ (p q : Option Addr × Nat × TypeId) => AO ρ p.1 q.1 ∧ q.2 = p.2) (Sim.pure ⟨r, rfl⟩) fun ρ3 p q e3 hb => ?_
      obtain ⟨p1, p2, p3⟩ := p
      obtain ⟨q1, q2, q3⟩ := q
      obtain ⟨ha, hb⟩ := hb
      cases hb
      dsimp only at ha ⊢
      refine Sim.bindK (k_underlying t) fun d2 _ => ?_
      cases p1 with
      | none =>
        cases q1 with
        | none => exact Sim.dead (Dead.boundsPanic _ _ _ _)
        | some b => exact ha.elim
      | some a =>
        cases q1 with
        | none => exact ha.elim
        | some b =>
          dsimp only
          refine Sim.ite (fun _ => Sim.bindK (k_sizeOf _) fun n _ => Sim.pure (VP.of (AR.add ha _))) fun _ => ?_
          exact Sim.dead (Dead.ite (Dead.unsupported _) (Dead.boundsPanic _ _ _ _))
    | slice el =>
      cases h with
      | nilSlice n c =>
        dsimp only
        refine Sim.bind (A := fun ρ (p q : Option Addr × Nat × TypeId) => AO ρ p.1 q.1 ∧ q.2 = p.2) (Sim.pure ⟨trivial, rfl⟩) fun ρ3 p q e3 hb => ?_
        obtain ⟨p1, p2, p3⟩ := p
        obtain ⟨q1, q2, q3⟩ := q
        obtain ⟨ha, hb⟩ := hb
        cases hb
        dsimp only at ha ⊢
        refine Sim.bindK (k_underlying t) fun d2 _ => ?_
        cases p1 with
        | none =>
          cases q1 with
          | none => exact Sim.dead (Dead.boundsPanic _ _ _ _)
          | some b => exact ha.elim
        | some a =>
          cases q1 with
          | none => exact ha.elim
          | some b =>
            dsimp only
            refine Sim.ite (fun _ => Sim.bindK (k_sizeOf _) fun n _ => Sim.pure (VP.of (AR.add ha _))) fun _ => ?_
            exact Sim.dead (Dead.ite (Dead.unsupported _) (Dead.boundsPanic _ _ _ _))
      | sl hr n c =>
        dsimp only
        refine Sim.bind (A := fun ρ (p q : Option Addr × Nat × TypeId) => AO ρ p.1 q.1 ∧ q.2 = p.2) (Sim.pure ⟨AR.mono hr e, rfl⟩) fun ρ3 p q e3 hb => ?_
        obtain ⟨p1, p2, p3⟩ := p
        obtain ⟨q1, q2, q3⟩ := q
        obtain ⟨ha, hb⟩ := hb
        cases hb
        dsimp only at ha ⊢
        refine Sim.bindK (k_underlying t) fun d2 _ => ?_
        cases p1 with
        | none =>
          cases q1 with
          | none => exact Sim.dead (Dead.boundsPanic _ _ _ _)
          | some b => exact ha.elim
        | some a =>
          cases q1 with
          | none => exact ha.elim
          | some b =>
            dsimp only
            refine Sim.ite (fun _ => Sim.bindK (k_sizeOf _) fun n _ => Sim.pure (VP.of (AR.add ha _))) fun _ => ?_
            exact Sim.dead (Dead.ite (Dead.unsupported _) (Dead.boundsPanic _ _ _ _))
      | _ => exact Sim.dead (Dead.bind (Dead.stuck _))
    | _ => cases h <;> exact Sim.dead (Dead.bind (Dead.stuck _))
theorem Sim.index (t : TypeId) {x y u v : Value} (h : VR C.Fn ρ x y) (k : VR C.Fn ρ u v) : Sim C (fun ρ => VR C.Fn ρ) ρ (Instr.index t x u) (Instr.index t y v) := by
  refine Sim.bind (Sim.asIntOf k) fun ρ1 a b e hb => ?_
  subst hb
  obtain ⟨kk, i⟩ := b
  refine Sim.bindK (k_underlying t) fun d _ => ?_
  cases d with
  | array n el =>
    cases h with
    | agg h1 h2 => exact Sim.ite (fun _ => Sim.bindK (k_sizeOf _) fun n _ => Sim.part _ (VRs.mono ⟨h1, h2⟩ e) _) fun _ => Sim.dead (Dead.boundsPanic _ _ _ _)
    | _ => exact Sim.dead (Dead.stuck _)
  | string =>
    cases h with
    | string s =>
      simp only
      split
      · exact Sim.pure (.int _ _)
      · exact Sim.dead (Dead.boundsPanic _ _ _ _)
    | _ => exact Sim.dead (Dead.stuck _)
  | _ => cases h <;> exact Sim.dead (Dead.stuck _)
end places
end Go.Proofs.YtmbfdhekplnoaaaDoor

namespace Go.Proofs.YtmbfdhekplnoaaaDoor
open Go

section slices
variable {C : Ctx} {ρ : Brel}
def OV (Fn : FnR) (ρ : Brel) : Option Value → Option Value → Prop
  | none, none => True
  | some x, some y => VR Fn ρ x y
  | _, _ => False
theorem OV.mono {Fn : FnR} {ρ ρ' : Brel} {a b : Option Value} (h : OV Fn ρ a b) (e : Ext ρ ρ') : OV Fn ρ' a b := by
  cases a <;> cases b <;> first | exact h | exact VR.mono h e
theorem Sim.sliceBound {x y : Value} (h : VR C.Fn ρ x y) (n : Nat) (c : BoundsCode) : Sim C (fun _ a b => b = a) ρ (Instr.sliceBound x n c) (Instr.sliceBound y n c) := by
  refine Sim.bind (Sim.asIntOf h) fun ρ1 a b e hb => ?_
  subst hb
  obtain ⟨k, i⟩ := b
  exact Sim.ite (fun _ => Sim.pure rfl) fun _ => Sim.dead (Dead.boundsPanic _ _ _ _)
theorem Sim.sliceBounds (s : Bool) (n m : Nat) {a b c a' b' c' : Option Value} (ha : OV C.Fn ρ a a') (hb : OV C.Fn ρ b b') (hc : OV C.Fn ρ c c') :
    Sim C (fun _ p q => q = p) ρ (Instr.sliceBounds s n m a b c) (Instr.sliceBounds s n m a' b' c') := by
  unfold Instr.sliceBounds
  cases c with
  | none => cases c' with
    | some _ => exact hc.elim
    | none =>
      dsimp only
      refine Sim.bind (A := fun _ p q => q = p) (Sim.pure rfl) fun ρ1 x y e1 hxy => ?_
      subst hxy
      cases b with
      | none => cases b' with
        | some _ => exact hb.elim
        | none =>
          dsimp only
          refine Sim.bind (A := fun _ p q => q = p) (Sim.pure rfl) fun ρ2 u v e2 huv => ?_
          subst huv
          cases a with
          | none => cases a' with
            | none => exact Sim.bind (A := fun _ p q => q = p) (Sim.pure rfl) fun _ x y _ hb => by subst hb; exact Sim.pure rfl
            | some _ => exact ha.elim
          | some x => cases a' with
            | none => exact ha.elim
            | some y => exact Sim.bind (Sim.sliceBound (VR.mono ha (e1.trans e2)) _ _) fun _ x y _ hb => by subst hb; exact Sim.pure rfl
      | some bx => cases b' with
        | none => exact hb.elim
        | some byy =>
          dsimp only
          refine Sim.bind (Sim.sliceBound (VR.mono hb e1) _ _) fun ρ2 u v e2 huv => ?_
          subst huv
          cases a with
          | none => cases a' with
            | none => exact Sim.bind (A := fun _ p q => q = p) (Sim.pure rfl) fun _ x y _ hb => by subst hb; exact Sim.pure rfl
            | some _ => exact ha.elim
          | some x => cases a' with
            | none => exact ha.elim
            | some y => exact Sim.bind (Sim.sliceBound (VR.mono ha (e1.trans e2)) _ _) fun _ x y _ hb => by subst hb; exact Sim.pure rfl
  | some cx => cases c' with
    | none => exact hc.elim
    | some cy =>
      dsimp only
      refine Sim.bind (Sim.sliceBound hc _ _) fun ρ1 x y e1 hxy => ?_
      subst hxy
      cases b with
      | none => cases b' with
        | some _ => exact hb.elim
        | none => exact Sim.dead (Dead.bind (Dead.stuck _))
      | some bx => cases b' with
        | none => exact hb.elim
        | some byy =>
          dsimp only
          refine Sim.bind (Sim.sliceBound (VR.mono hb e1) _ _) fun ρ2 u v e2 huv => ?_
          subst huv
          cases a with
          | none => cases a' with
            | none => exact Sim.bind (A := fun _ p q => q = p) (Sim.pure rfl) fun _ x y _ hb => by subst hb; exact Sim.pure rfl
            | some _ => exact ha.elim
          | some x => cases a' with
            | none => exact ha.elim
            | some y => exact Sim.bind (Sim.sliceBound (VR.mono ha (e1.trans e2)) _ _) fun _ x y _ hb => by subst hb; exact Sim.pure rfl
theorem Sim.slice (t : TypeId) {x y : Value} (h : VR C.Fn ρ x y) {a b c a' b' c' : Option Value} (ha : OV C.Fn ρ a a') (hb : OV C.Fn ρ b b') (hc : OV C.Fn ρ c c') :
    Sim C (fun ρ => VR C.Fn ρ) ρ (Instr.slice t x a b c) (Instr.slice t y a' b' c') := by
  refine Sim.bindK (k_underlying t) fun d _ => ?_
  cases d with
  | string =>
    cases h with
    | string s =>
      dsimp only
      have hcs : c'.isSome = c.isSome := by cases c <;> cases c' <;> first | rfl | exact hc.elim
      rw [hcs]
      by_cases q : c.isSome = true
      · rw [if_pos q, if_pos q]; exact Sim.dead (by first | exact Dead.stuck _ | exact Dead.bind (Dead.stuck _))
      · rw [if_neg q, if_neg q]
        refine Sim.bind (Sim.sliceBounds false s.size s.size ha hb (c := none) (c' := none) trivial) fun _ p q _ hpq => ?_
        subst hpq
        exact Sim.pure (.string _)
    | _ => exact Sim.dead (Dead.stuck _)
  | slice el =>
    cases h with
    | nilSlice n k =>
      dsimp only
      refine Sim.bind (Sim.sliceBounds true n k ha hb hc) fun ρ1 p q e1 hpq => ?_
      subst hpq
      obtain ⟨l, hh, m⟩ := q
      refine Sim.bindK (k_sizeOf _) fun sz _ => Sim.pure (VR.slice ?_ _ _)
      split
      · exact trivial
      · exact trivial
    | sl hr n k =>
      dsimp only
      refine Sim.bind (Sim.sliceBounds true n k ha hb hc) fun ρ1 p q e1 hpq => ?_
      subst hpq
      obtain ⟨l, hh, m⟩ := q
      refine Sim.bindK (k_sizeOf _) fun sz _ => Sim.pure (VR.slice ?_ _ _)
      split
      · exact AR.mono hr e1
      · exact (AR.mono hr e1).add _
    | _ => exact Sim.dead (Dead.stuck _)
  | pointer arr =>
    dsimp only
    refine Sim.bind (Sim.asAddr h) fun ρ1 u v e1 r => Sim.bindK (k_underlying arr) fun d2 _ => ?_
    cases d2 with
    | array n el =>
      dsimp only
      refine Sim.bind (Sim.sliceBounds false n n (ha.mono e1) (hb.mono e1) (hc.mono e1)) fun ρ2 p q e2 hpq => ?_
      subst hpq
      obtain ⟨l, hh, m⟩ := q
      refine Sim.bindK (k_sizeOf _) fun sz _ => Sim.pure (slice_vr ?_ _ _)
      split
      · exact r.1.mono e2
      · exact (r.1.mono e2).add _
    | _ => exact Sim.dead (Dead.stuck _)
  | _ => cases h <;> exact Sim.dead (Dead.stuck _)
theorem Sim.sliceAt (t : TypeId) {x y : Value} (h : VR C.Fn ρ x y) {a b c a' b' c' : Option Value} (ha : OV C.Fn ρ a a') (hb : OV C.Fn ρ b b') (hc : OV C.Fn ρ c c') :
    Sim C (fun ρ => VR C.Fn ρ) ρ (Instr.sliceAt t x a b c) (Instr.sliceAt t y a' b' c') := by
  refine Sim.bindK (k_underlying t) fun d _ => ?_
  cases d with
  | array n el =>
    dsimp only
    refine Sim.bind (Sim.sureAddr (.inl h)) fun ρ1 u v e1 r => Sim.bind (Sim.sliceBounds false n n (ha.mono e1) (hb.mono e1) (hc.mono e1)) fun ρ2 p q e2 hpq => ?_
    subst hpq
    obtain ⟨l, hh, m⟩ := q
    refine Sim.bindK (k_sizeOf _) fun sz _ => Sim.pure (slice_vr ?_ _ _)
    split
    · exact r.mono e2
    · exact (r.mono e2).add _
  | _ => exact Sim.slice t h ha hb hc
theorem vrs_zero {Fn : FnR} {z : Array Value} (h : VRs Fn ρ z z) (n : Nat) : VRs Fn ρ ((Array.range n).map (z[· % z.size]!)) ((Array.range n).map (z[· % z.size]!)) := by
  refine VRs.map _ _ _ fun i hi => ?_
  by_cases hz : i % z.size < z.size
  · rw [getElem!_pos z (i % z.size) hz]
    exact h.2 (i % z.size) _ _ (by simp [hz]) (by simp [hz])
  · rw [getElem!_neg z (i % z.size) hz]
    exact .bool _
theorem Sim.askRoom (n : Nat) : Sim C (fun _ _ _ => True) ρ (Go.askRoom n) (Go.askRoom n) := Sim.ite (fun _ => Sim.noRoom) fun _ => Sim.pure trivial
theorem Sim.makeSlice (hZ : Zeros C.P) {t : TypeId} (htt : t < C.P.types.size) {x y u v : Value} (h : VR C.Fn ρ x y) (k : VR C.Fn ρ u v) : Sim C (fun ρ => VR C.Fn ρ) ρ (Instr.makeSlice t x u) (Instr.makeSlice t y v) := by
  refine Sim.bindK (k_underlying t) fun d hd => ?_
  have hu := is_underlying hd
  cases d with
  | slice el =>
    dsimp only
    refine Sim.bind (Sim.asInt h) fun ρ1 l l' e1 q1 => Sim.bind (Sim.asInt (k.mono e1)) fun ρ2 c c' e2 q2 => Sim.bindK (k_typeInfo el) fun i _ => ?_
    subst q1; subst q2
    refine Sim.ite (fun _ => Sim.dead ?_) fun _ => ?_
    · exact Dead.ite (Dead.bind (Dead.runtimePanic _)) (Dead.ite (Dead.bind (Dead.runtimePanic _)) (Dead.then (fine_choose _) fun _ => Dead.bind (Dead.runtimePanic _)))
    · refine Sim.bind (Sim.askRoom _) fun _ _ _ _ _ => Sim.bindK (k_sizeOf el) fun n _ => Sim.ite (fun _ => ?_) fun _ => ?_
      · refine Sim.bind (A := fun ρ a b => b = a ∧ VRs C.Fn ρ a a) (Sim.pure ⟨rfl, VRs.nil⟩) fun ρ3 a b _ hab => ?_
        obtain ⟨rfl, hab⟩ := hab
        exact Sim.bind (Sim.newRow el (vrs_zero hab _)) fun _ _ _ _ r => Sim.pure (slice_vr r.1 _ _)
      · refine Sim.bindK (k_zeroValue el) fun z hz => Sim.bind (A := fun ρ a b => b = a ∧ VRs C.Fn ρ a a) (Sim.pure ⟨rfl, (zero_vr hZ (hZ.elem t el htt hu) hz).cells⟩) fun ρ3 a b _ hab => ?_
        obtain ⟨rfl, hab⟩ := hab
        exact Sim.bind (Sim.newRow el (vrs_zero hab _)) fun _ _ _ _ r => Sim.pure (slice_vr r.1 _ _)
  | _ => exact Sim.dead (Dead.stuck _)
theorem vl_fold {Fn : FnR} (off : Nat) : ∀ (l l' : List Value) (k : Nat) (xs ys : Array Value), VL Fn ρ l l' → VRs Fn ρ xs ys →
    VRs Fn ρ ((l.zipIdx k).foldl (fun cs p => cs.setIfInBounds (off + p.2) p.1) xs) ((l'.zipIdx k).foldl (fun cs p => cs.setIfInBounds (off + p.2) p.1) ys)
  | [], [], _, _, _, _, h => h
  | x :: l, y :: l', k, xs, ys, hl, h => by
    rw [List.zipIdx_cons, List.zipIdx_cons, List.foldl_cons, List.foldl_cons]
    exact vl_fold off l l' (k + 1) _ _ hl.2 (h.set hl.1 _)
  | [], _ :: _, _, _, _, hl, _ => hl.elim
  | _ :: _, [], _, _, _, hl, _ => hl.elim
def PL (Fn : FnR) (ρ : Brel) : List (Nat × Value) → List (Nat × Value) → Prop
  | [], [] => True
  | x :: xs, y :: ys => (y.1 = x.1 ∧ VR Fn ρ x.2 y.2) ∧ PL Fn ρ xs ys
  | _, _ => False
theorem PL.map {Fn : FnR} (f g : Operand → Value) : ∀ (l : List (Nat × Operand)), (∀ p, p ∈ l → VR Fn ρ (f p.2) (g p.2)) → PL Fn ρ (l.map fun p => (p.1, f p.2)) (l.map fun p => (p.1, g p.2))
  | [], _ => trivial
  | p :: l, h => ⟨⟨rfl, h p (List.mem_cons_self ..)⟩, PL.map f g l fun q hq => h q (List.mem_cons_of_mem _ hq)⟩
theorem fill_vr {Fn : FnR} (place : Nat → Option (Nat × Nat)) : ∀ (l l' : List (Nat × Value)) (xs ys : Array Value), PL Fn ρ l l' → VRs Fn ρ xs ys →
    (Instr.fill place xs l = none ∧ Instr.fill place ys l' = none) ∨ ∃ a b, Instr.fill place xs l = some a ∧ Instr.fill place ys l' = some b ∧ VRs Fn ρ a b
  | [], [], xs, ys, _, h => .inr ⟨xs, ys, rfl, rfl, h⟩
  | (i, v) :: l, (j, v') :: l', xs, ys, hl, h => by
    obtain ⟨⟨e, hv⟩, hl⟩ := hl
    simp only at e hv
    subst e
    unfold Instr.fill
    cases hp : place j with
    | none => exact .inl ⟨rfl, rfl⟩
    | some q =>
      obtain ⟨off, size⟩ := q
      have hc := hv.cells
      simp only
      rw [← hc.1, ← h.1]
      split
      · exact .inl ⟨rfl, rfl⟩
      · refine fill_vr place l l' _ _ hl ?_
        rw [← Array.foldl_toList, ← Array.foldl_toList, Array.toList_zipIdx, Array.toList_zipIdx]
        exact vl_fold off _ _ 0 _ _ hc.list h
  | [], _ :: _, _, _, hl, _ => hl.elim
  | _ :: _, [], _, _, hl, _ => hl.elim
theorem k_mapM {α β : Type} (f : α → Sem β) (h : ∀ a, Konst C (f a)) (l : List α) : Konst C (l.mapM f) := by
  induction l with
  | nil => exact Konst.pure _
  | cons a l ih =>
    rw [List.mapM_cons]
    exact (h a).bind fun _ _ => ih.bind fun _ _ => Konst.pure _
theorem Sim.build (hZ : Zeros C.P) {t : TypeId} (htt : t < C.P.types.size) {l l' : Array (Nat × Value)} (h : PL C.Fn ρ l.toList l'.toList) : Sim C (fun ρ => VR C.Fn ρ) ρ (Instr.build t l) (Instr.build t l') := by
  refine Sim.bindK (k_zeroValue t) fun z hz => Sim.bindK (k_underlying t) fun d _ => ?_
  have hc := (zero_vr (ρ := ρ) hZ htt hz).cells
  cases d with
  | struct fs =>
    dsimp only
    refine Sim.bindK ?_ fun places _ => ?_
    · rw [← Array.toArray_toList (xs := fs), List.mapM_toArray]
      exact (k_mapM _ (fun f => (k_sizeOf _).bind fun _ _ => Konst.pure _) _).bind fun _ _ => Konst.pure _
    · rcases fill_vr (places[·]?) _ _ _ _ h hc with ⟨e1, e2⟩ | ⟨a, b, e1, e2, hv⟩
      · rw [e1]; exact Sim.dead (Dead.stuck _)
      · rw [e1, e2]; exact Sim.pure (VR.ag hv)
  | array n el =>
    dsimp only
    refine Sim.bindK (k_sizeOf el) fun size _ => ?_
    rcases fill_vr (fun i => some (i * size, size)) _ _ _ _ h hc with ⟨e1, e2⟩ | ⟨a, b, e1, e2, hv⟩
    · rw [e1]; exact Sim.dead (Dead.stuck _)
    · rw [e1, e2]; exact Sim.pure (VR.ag hv)
  | _ => exact Sim.dead (Dead.stuck _)
theorem Sim.buildSlice (hZ : Zeros C.P) {t : TypeId} (htt : t < C.P.types.size) (n : Nat) {l l' : Array (Nat × Value)} (h : PL C.Fn ρ l.toList l'.toList) : Sim C (fun ρ => VR C.Fn ρ) ρ (Instr.buildSlice t n l) (Instr.buildSlice t n l') := by
  refine Sim.bindK (k_underlying t) fun d hd => ?_
  have hu := is_underlying hd
  cases d with
  | slice el =>
    dsimp only
    refine Sim.bindK (k_sizeOf el) fun size _ => ?_
    refine Sim.ite (fun _ => Sim.dead (by first | exact Dead.unsupported _ | exact Dead.bind (Dead.unsupported _))) fun _ => Sim.ite (fun _ => ?_) fun _ => ?_
    · refine Sim.bind (A := fun ρ' a b => ρ' = ρ ∧ b = a ∧ VRs C.Fn ρ a a) (Sim.pure ⟨rfl, rfl, VRs.nil⟩) fun ρ3 a b _ hab => ?_
      obtain ⟨rfl, rfl, hab⟩ := hab
      rcases fill_vr (fun i => some (i * size, size)) _ _ _ _ h (vrs_zero hab (n * size)) with ⟨e1, e2⟩ | ⟨a, b, e1, e2, hv⟩
      · rw [e1]; exact Sim.dead (Dead.stuck _)
      · rw [e1, e2]; exact Sim.bind (Sim.newRow el hv) fun _ _ _ _ r => Sim.pure (slice_vr r.1 _ _)
    · refine Sim.bindK (k_zeroValue el) fun z hz => Sim.bind (A := fun ρ' a b => ρ' = ρ ∧ b = a ∧ VRs C.Fn ρ a a) (Sim.pure ⟨rfl, rfl, (zero_vr hZ (hZ.elem t el htt hu) hz).cells⟩) fun ρ3 a b _ hab => ?_
      obtain ⟨rfl, rfl, hab⟩ := hab
      rcases fill_vr (fun i => some (i * size, size)) _ _ _ _ h (vrs_zero hab (n * size)) with ⟨e1, e2⟩ | ⟨a, b, e1, e2, hv⟩
      · rw [e1]; exact Sim.dead (Dead.stuck _)
      · rw [e1, e2]; exact Sim.bind (Sim.newRow el hv) fun _ _ _ _ r => Sim.pure (slice_vr r.1 _ _)
  | _ => exact Sim.dead (Dead.stuck _)
end slices
end Go.Proofs.YtmbfdhekplnoaaaDoor

namespace Go.Proofs.YtmbfdhekplnoaaaDoor
open Go

section builtins
variable {C : Ctx} {ρ : Brel}
theorem OV.at {xs ys : Array Value} (h : VRs C.Fn ρ xs ys) (i : Nat) : OV C.Fn ρ xs[i]? ys[i]? := by
  cases hx : xs[i]? with
  | none => rw [h.none_at hx]; trivial
  | some v => obtain ⟨v', e1, e2⟩ := h.at hx; rw [e1]; exact e2
theorem Sim.lenOf {x y : Value} (h : VR C.Fn ρ x y) : Sim C (fun _ a b => b = a) ρ (Builtin.lenOf x) (Builtin.lenOf y) := by
  cases h with
  | nilSlice n c => exact Sim.pure rfl
  | sl _ n c => exact Sim.pure rfl
  | string s => exact Sim.pure rfl
  | _ => exact Sim.dead (Dead.stuck _)
theorem Sim.firstCells (size n : Nat) {x y : Value} (h : VR C.Fn ρ x y) : Sim C (fun ρ => VRs C.Fn ρ) ρ (Builtin.firstCells size n x) (Builtin.firstCells size n y) := by
  cases h with
  | nilSlice k c => exact Sim.pure VRs.nil
  | sl hr k c => exact Sim.loadCells hr _
  | string s => exact Sim.pure (VRs.map _ _ _ fun _ _ => .int _ _)
  | _ => exact Sim.dead (Dead.stuck _)
theorem zeroCells_vr {Fn : FnR} {z : Array Value} (h : VRs Fn ρ z z) (n : Nat) : VRs Fn ρ (Builtin.zeroCells z n) (Builtin.zeroCells z n) := vrs_zero h _
theorem fine_bind {α β : Type} {s : Sem α} {k : α → Sem β} (h : ∀ w, Fine C s w) (hk : ∀ a w, Fine C (k a) w) (w : World) : Fine C (s >>= k) w := by
  intro es g w1 es1 hr
  have hr' : (s.bind k).runT C.P w es = (.halt g w1, es1) := hr
  rw [Sem.runT_bind'] at hr'
  split at hr'
  · exact hk _ _ _ _ _ _ hr'
  · rename_i q; cases hr'; exact h _ _ _ _ _ q
theorem fine_pure {α : Type} (a : α) (w : World) : Fine C (Pure.pure a : Sem α) w := fun es g w1 es1 hr => by cases hr
theorem fine_shape (r : Nat) (w : World) : Fine C (Go.shape r) w := fun es g w1 es1 hr => by cases hr
theorem fine_frozen (a : Addr) (w : World) : Fine C (Go.frozen a) w := fun es g w1 es1 hr => by cases hr
theorem fine_mark (m : Mark) (w : World) : Fine C (Go.mark m) w := fun es g w1 es1 hr => by cases hr
theorem fine_ite {α : Type} {c : Prop} [Decidable c] {s t : Sem α} {w : World} (h : Fine C s w) (k : Fine C t w) : Fine C (if c then s else t) w := by
  split
  · exact h
  · exact k
theorem fine_holdsCells (a : Addr) (n : Nat) (w : World) : Fine C (Builtin.holdsCells a n) w := fine_bind (fine_shape _) (fun x w => by cases x <;> exact fine_pure _ _) w
theorem fine_mayShare (a b c : Nat) (base : Option Addr) (x : Value) (w : World) : Fine C (Builtin.mayShare a b c base x) w := by
  unfold Builtin.mayShare
  have tail : ∀ (there : Bool) (w : World), Fine C (if (!there) = true then Pure.pure true else match x with
      | .slice (some d) _ _ => do Pure.pure (!(← Builtin.holdsCells d (c * a)) || base.any (·.block == d.block))
      | _ => Pure.pure false) w := by
    intro there w
    refine fine_ite (fine_pure _ _) ?_
    split
    · exact fine_bind (fine_holdsCells _ _) (fun _ w => fine_pure _ w) w
    · exact fine_pure _ _
  cases base with
  | none => exact fine_bind (fine_pure _) tail w
  | some d => exact fine_bind (fine_holdsCells _ _) (fun _ w => fine_bind (fine_frozen _) (fun _ w => fine_bind (fine_pure _) tail w) w) w
def PlainAppend (P : Program) (ts : Array TypeId) : Prop := (∃ x, ts[1]? = some x ∧ ∀ k, P.underlying x ≠ some (.int k)) ∧ ∀ s, ts[0]? = some s → s < P.types.size
theorem Sim.append (hZ : Zeros C.P) (ts : Array TypeId) (hT : PlainAppend C.P ts) (t : TypeId) {xs ys : Array Value} (h : VRs C.Fn ρ xs ys) : Sim C (fun ρ => VR C.Fn ρ) ρ (Builtin.append_ ts t xs) (Builtin.append_ ts t ys) := by
  unfold Builtin.append_
  have h0 := OV.at h 0
  have h1 := OV.at h 1
  cases hts : ts[0]? with
  | none => exact Sim.dead (Dead.stuck _)
  | some sType =>
    have htt := hT.2 sType hts
    cases hx0 : xs[0]? with
    | none => exact Sim.dead (Dead.stuck _)
    | some s =>
      cases hx1 : xs[1]? with
      | none => exact Sim.dead (Dead.stuck _)
      | some x =>
        rw [hx0] at h0
        rw [hx1] at h1
        cases hy0 : ys[0]? with
        | none => rw [hy0] at h0; exact h0.elim
        | some s' =>
          cases hy1 : ys[1]? with
          | none => rw [hy1] at h1; exact h1.elim
          | some y =>
            rw [hy0] at h0
            rw [hy1] at h1
            dsimp only
            refine Sim.bindK (k_underlying sType) fun d hd => ?_
            have hu := is_underlying hd
            cases d with
            | slice el =>
              dsimp only
              have h0' : (∃ a b n c, s = .slice a n c ∧ s' = .slice b n c ∧ AO ρ a b) ∨ ∀ a n c, s ≠ .slice a n c := by
                cases h0 with
                | nilSlice n c => exact .inl ⟨none, none, n, c, rfl, rfl, trivial⟩
                | sl hr n c => exact .inl ⟨_, _, n, c, rfl, rfl, hr⟩
                | _ => exact .inr fun a n c q => by cases q
              rcases h0' with ⟨a, b, n, c, rfl, rfl, hr⟩ | hno
              · dsimp only
                obtain ⟨⟨xt, ht, hk⟩, _⟩ := hT
                refine Sim.bindK (k_sizeOf el) fun size _ => ?_
                rw [ht]
                dsimp only
                refine Sim.bindK (k_underlying xt) fun dd hdd => ?_
                have hud := is_underlying hdd
                refine Sim.bind (A := fun _ p q => p = false ∧ q = false) (Sim.pure (by cases dd <;> first | exact ⟨rfl, rfl⟩ | exact absurd hud (hk _))) fun ρ1 p q e1 hpq => ?_
                obtain ⟨rfl, rfl⟩ := hpq
                simp only [Bool.false_eq_true, if_false, Bool.not_false, if_true]
                refine Sim.bind (Sim.lenOf (VR.mono h1 e1)) fun ρ2 m m' e2 hm => ?_
                subst hm
                have hx2 : VR C.Fn ρ2 x y := VR.mono h1 (e1.trans e2)
                have hr2 : AO ρ2 a b := hr.mono (e1.trans e2)
                refine Sim.ite (fun _ => ?_) fun _ => ?_
                · refine Sim.bind (Sim.firstCells size _ hx2) fun ρ3 new new' e3 hn => ?_
                  cases a with
                  | none => cases b with
                    | none => exact Sim.pure (.nilSlice _ _)
                    | some _ => exact hr.elim
                  | some a => cases b with
                    | none => exact hr.elim
                    | some b =>
                      exact Sim.bind (Sim.storeCells _ _ (AR.add (AR.mono hr2 e3) _) 0 hn.list) fun ρ4 _ _ e4 _ => Sim.pure (slice_vr (AR.mono hr2 (e3.trans e4)) _ _)
                · refine Sim.bindK (k_typeInfo el) fun i _ => ?_
                  have tail : ∀ {ρ3 : Brel}, Ext ρ2 ρ3 → ∀ newCap, Sim C (fun ρ => VR C.Fn ρ) ρ3 _ _ := fun {ρ3} e3 newCap => Sim.bindK (k_typeInfo el) fun i2 _ => Sim.bind (Sim.askRoom (newCap * i2.bytes)) fun ρ4 _ _ e4 _ =>
                    Sim.bind (Sim.firstCells size n (VR.slice (hr2.mono (e3.trans e4)) n c)) fun ρ5 old old' e5 ho => Sim.bind (Sim.firstCells size m' (hx2.mono ((e3.trans e4).trans e5))) fun ρ6 new new' e6 hn =>
                    Sim.bindK (k_zeroValue el) fun z hz => Sim.bind (Sim.newRow el (((ho.mono e6).append hn).append (zeroCells_vr (zero_vr hZ (hZ.elem sType el htt hu) hz).cells (newCap - (n + m'))))) fun ρ7 r r' e7 hrr => Sim.pure (slice_vr hrr.1 (n + m') newCap)
                  refine Sim.ite (fun _ => Sim.dead (Dead.bind (Dead.runtimePanic _))) fun _ => Sim.bindK (k_typeInfo el) fun i3 _ => Sim.ite (fun _ => Sim.dead (Dead.bind (Dead.then (fine_mayShare _ _ _ _ _) fun _ => Dead.ite (Dead.then (fine_mark _) fun _ => Dead.unsupported _) (Dead.unsupported _)))) fun _ => ?_
                  refine Sim.bind (Sim.choose _) fun ρ3 nc nc' e3 hc => ?_
                  subst hc
                  exact tail e3 nc'
              · cases s <;> first | exact absurd rfl (hno _ _ _) | exact Sim.dead (Dead.stuck _)
            | _ => exact Sim.dead (Dead.stuck _)
end builtins
end Go.Proofs.YtmbfdhekplnoaaaDoor
