/-
  A lone run from the midst of a goroutine's first function to its end, in company.
  Which functions are borne: by a check that the kernel can run.
  A lone contract at any world in company: of all blocks it is given a list, one context for each that is never written.
-/
import Derived.Test.YtmbfdhekplnoaaaDoorMidX
import Derived.Test.YtmbfdhekplnoaaaDoorAlikeStep2X
import Derived.Test.YtmbfdhekplnoaaaDoorTreesX
namespace Go.Proofs.YtmbfdhekplnoaaaDoor
open Go Go.Conc Go.RowKit

section last
variable {ι : Type} {K : Job ι}
theorem Twin.fin (hK : K.Known) {i : ι} {Own : Nat → Prop} {x : LS} {ρ : Brel} {b : Frame} {W : World} (h : Twin K i Own x ρ b [] W) (hn : Last x) {g : Func} (hg : K.P.funcs[K.a.fn]? = some g)
    {val : Array Value → Value} (hres : ∀ t W, (Go.results g t).runT K.P W #[] = (.ok (val t) W, #[])) (hin : K.P.inits.idxOf? K.a.fn = none) :
    stepG K.P true (G b []) W = .ended (.done (val b.tmps)) W #[] ∧ Done K i (fun c => Own c ∨ (W.heap.size ≤ c ∧ c < W.heap.size)) (val b.tmps) W := by
  obtain ⟨v', ρ', W', es, st, d, lt, tp, ⟨g0, es0, gf, gr⟩, dn⟩ := h.end hK hn true default []
  obtain ⟨n, D, T, hr⟩ := h.reach
  obtain ⟨σ, hgd⟩ := h.good
  obtain ⟨v, hQ, hl, hfn⟩ := ended (C := K.D i) (hK.hR i) hr hgd hn
  obtain ⟨fn, t, t', k, m, e1, e2, _, _, _, _⟩ := h.fr
  have hmm : m = .returning := by have := hn.1; rw [e1] at this; exact this
  subst hmm
  have ef : fn = K.a.fn := by rw [← hfn, e1]; rfl
  subst e2
  have eg : g0 = g := by
    have gf' : K.P.funcs[fn]? = some g0 := gf
    rw [ef] at gf'
    exact Option.some.inj (gf'.symm.trans hg)
  subst eg
  have gr' : (Go.results g0 t').runT K.P W #[] = (.ok v' W', es0) := gr
  rw [hres] at gr'
  obtain ⟨z1, z2⟩ := Prod.mk.inj gr'
  obtain ⟨z3, z4⟩ := Result.ok.inj z1
  subst z3 z4
  refine ⟨?_, dn⟩
  have : stepG K.P true (G (Fr fn t' k .returning) []) W = unwind K.P true (Fr fn t' k .returning) [] none W := rfl
  rw [this]
  unfold unwind
  simp only [Fr]
  have g1 : K.P.funcs[fn]? = some g0 := gf
  have g2 : K.P.inits.idxOf? fn = none := by rw [ef]; exact hin
  rw [g1]
  simp only
  rw [hres]
  simp [g2, doReturn, seen, GStep.after]
def AtEnd (K : Job ι) : (Nat → Prop) → Goroutine → World → Prop := fun Own g W =>
  g.status = .running ∧ (∀ b, Own b → b < W.heap.size) ∧ ∀ d, ∃ v, stepG K.P true g (W.at d) = .ended (.done v) (W.at d) #[] ∧ ∀ i, Done K i Own v (W.at d)
theorem walks_last_from (hK : K.Known) (i0 : ι) {g : Func} (hg : K.P.funcs[K.a.fn]? = some g) {val : Array Value → Value} (hres : ∀ t W, (Go.results g t).runT K.P W #[] = (.ok (val t) W, #[])) (hin : K.P.inits.idxOf? K.a.fn = none) :
    ∀ x, Acc (Nx (K.D i0) K.Gl) x → ∀ (Own : Nat → Prop) (b : Frame) (l : List Frame) (W : World), (∃ ρ, Twin K i0 Own x ρ b l W) → (∀ i, ∃ y ρ, Twin K i Own y ρ b l W) → (∀ b, Own b → b < W.heap.size) → (∀ s, K.S s → s < W.heap.size) →
      Walks K.P true K.S (AtEnd K) Own (G b l) W := by
  intro x hx
  induction hx with
  | intro x _ ih =>
    intro Own b l W ⟨ρ0, h0⟩ hall hO hS
    by_cases hn : Last x
    · obtain ⟨_, hl⟩ := h0.last.1 hn
      subst hl
      refine .stop fun W1 hr => ⟨rfl, fun b q => Nat.lt_of_lt_of_le (hO b q) hr.size, fun d => ?_⟩
      have hr2 : Rely Own K.S W (W1.at d) := hr.trans ⟨Nat.le_refl _, fun _ _ _ => rfl, rfl, rfl, rfl⟩
      refine ⟨val b.tmps, ((h0.rely hr2).fin hK hn hg hres hin).1, fun i => ?_⟩
      obtain ⟨y, ρ, q⟩ := hall i
      have hy : Last y := q.last.2 (h0.last.1 hn)
      have := ((q.rely hr2).fin hK hy hg hres hin).2
      have e : (fun c => Own c ∨ ((W1.at d).heap.size ≤ c ∧ c < (W1.at d).heap.size)) = Own := funext fun c => propext ⟨fun z => z.elim id fun z => absurd z.2 (Nat.not_lt.2 z.1), .inl⟩
      rw [e] at this
      exact this
    · refine Walks.step' rfl fun W1 hr => ?_
      have hO1 : ∀ b, Own b → b < W1.heap.size := fun b q => Nat.lt_of_lt_of_le (hO b q) hr.size
      have hS1 : ∀ s, K.S s → s < W1.heap.size := fun s q => Nat.lt_of_lt_of_le (hS s q) hr.size
      have h1 := h0.rely hr
      obtain ⟨y, ρ', b', l', W', es, st, nx, d, lt, tp, tw⟩ := h1.step hK hn true []
      have each : ∀ i, ∃ ρ ρ' y', (∀ s, K.S s → ρ s s) ∧ (∀ a c, ρ a c → Own c ∨ (a = c ∧ K.S c)) ∧ (∀ a c, ρ' a c → c < W'.heap.size) ∧ Did (K.C i) ρ ρ' W1 W' #[] es ∧ Twin K i (fun c => Own c ∨ (W1.heap.size ≤ c ∧ c < W'.heap.size)) y' ρ' b' l' W' := by
        intro i
        obtain ⟨z, ρ, q0⟩ := hall i
        have q := q0.rely hr
        have hz : ¬ Last z := fun k => hn (h1.last.2 (q.last.1 k))
        obtain ⟨y2, ρ2, b2, l2, W2, es2, st2, _, d2, lt2, tp2, tw2⟩ := q.step hK hz true []
        rw [st] at st2
        obtain ⟨z1, z2, z3⟩ := GStep.go.inj st2
        subst z2; subst z3
        have zb : b' = b2 := congrArg Goroutine.frame z1
        have zl : l' = l2 := List.append_cancel_right (congrArg Goroutine.callers z1 : l' ++ [] = l2 ++ [])
        subst zb; subst zl
        exact ⟨ρ, ρ2, y2, q.sh, q.img, lt2, d2, tw2⟩
      rw [List.append_nil, List.append_nil] at st
      have gu := guar_of hK i0 hS1 (fun i => by obtain ⟨ρ, ρ', _, a1, a2, a3, a4, _⟩ := each i; exact ⟨ρ, ρ', a1, a2, a3, a4⟩) tp
      refine ⟨_, _, W', es, st, gu, ih y nx _ b' l' W' ⟨ρ', tw⟩ (fun i => ?_) (fun b q => ?_) fun s q => Nat.lt_of_lt_of_le (hS1 s q) gu.size⟩
      · obtain ⟨_, ρ2, y2, _, _, _, _, q⟩ := each i
        exact ⟨y2, ρ2, q⟩
      · rcases q with q | q
        · exact Nat.lt_of_lt_of_le (hO1 b q) gu.size
        · exact q.2
theorem lastW (hK : K.Known) (i0 : ι) {Sh O : Nat → Prop} {w : World} {Post : Value → World → Prop} {g : Func} (hg : K.P.funcs[K.a.fn]? = some g) {val : Array Value → Value} (hres : ∀ t W, (Go.results g t).runT K.P W #[] = (.ok (val t) W, #[])) (hin : K.P.inits.idxOf? K.a.fn = none)
    {b : Frame} (ha : ∀ i, FR (K.C i) K.Gl (IdS K.S) K.a b) (hs : ∀ i, FR (K.D i) K.Gl (IdS K.S) K.a K.a)
    (hw : ∀ i, WR (K.C i) (IdS K.S) (World.tp (K.w i) w.tape w.drawn) w) (hv : ∀ i, WR (K.D i) (IdS K.S) (K.w i) (K.w i)) (hS : ∀ b, K.S b → Sh b ∨ O b) (hO : ∀ b, O b ∨ Sh b → b < w.heap.size)
    (hpost : ∀ N v W, (∀ b, N b → w.heap.size ≤ b ∧ b < W.heap.size) → Rely O Sh w W → (∀ i, Done K i N v W) → Post v W) : Walks K.P true Sh (Ends K.P Sh Post) O (G b []) w := by
  have hgl : ∀ g, K.Gl g → IdS K.S g g := fun g q => ⟨rfl, K.gls g q⟩
  have good : ∀ i, Good (K.D i) K.Gl (IdS K.S) ⟨K.a, [], K.w i⟩ := fun i => ⟨hs i, trivial, hv i, hgl⟩
  have tw : ∀ i, Twin K i (fun _ => False) ⟨K.a, [], K.w i⟩ (IdS K.S) b [] w := fun i =>
    ⟨⟨0, 0, fun _ _ => 0, Reach.zero _ _ _⟩, ⟨_, good i⟩, ha i, trivial, hw i, fun s q => ⟨rfl, q⟩, fun a c r => .inr ⟨r.1, r.1 ▸ r.2⟩⟩
  have h := walks_last_from hK i0 hg hres hin _ (acc_start (C := K.D i0) K.hZ (hK.hB' i0) (hK.hR i0) (good i0)) (fun _ => False) _ [] w ⟨_, tw i0⟩ (fun i => ⟨_, _, tw i⟩) (fun _ q => q.elim) fun s q => ((hw i0).lt (a := s) (b := s) ⟨rfl, q⟩).2
  have h2 := Walks.frame (Sh := Sh) (W0 := w) (Stop := Ends K.P Sh Post) O hS (fun N g W hl hr ⟨h1, h2, h3⟩ => ends_return h1 fun d => by
    obtain ⟨v, e, q⟩ := h3 d
    exact ⟨v, e, hpost N v (W.at d) (fun b z => ⟨hl b z, h2 b z⟩) (hr.trans ⟨Nat.le_refl _, fun _ _ _ => rfl, rfl, rfl, rfl⟩) q⟩) h (Rely.refl _ _ _) hO (fun _ q => q.elim)
  have e : (fun b => False ∨ O b) = O := funext fun b => propext ⟨fun q => q.elim (fun z => z.elim) id, .inr⟩
  rw [e] at h2
  exact h2
end last
end Go.Proofs.YtmbfdhekplnoaaaDoor

namespace Go.Proofs.YtmbfdhekplnoaaaDoor
open Go

theorem blt_lt {a b : Nat} (h : Nat.blt a b = true) : a < b := Nat.le_of_ble_eq_true h
def okOperandB (F gl I : List Nat) : Operand → Bool
  | .tmp d => !(I.elem d)
  | .const v => plainN 20 v
  | .global g => gl.elem g
  | .func f => F.elem f
def okAddrB (F gl I : List Nat) : Operand → Bool
  | .tmp _ => true
  | x => okOperandB F gl I x
def isIntB (P : Program) (t : TypeId) : Bool := match P.underlying t with | some (.int _) => true | _ => false
def okBuiltinB (P : Program) (ts : Array TypeId) : Builtin → Bool
  | .append => (match ts[1]? with | some x => !isIntB P x | none => false) && (match ts[0]? with | some x => Nat.blt x P.types.size | none => true)
  | .cap | .copy | .len | .panic | .delete | .min | .max => true
  | _ => false
def mapB (P : Program) (t : TypeId) : Bool := match P.underlying t with | some (.map _ e) => Nat.blt e P.types.size | _ => true
def keyB (P : Program) (t : TypeId) : Bool := match P.underlying t with | some (.map k _) => (match P.underlying k with | some d => basicB d | none => false) | _ => true
def isMapB (P : Program) (t : TypeId) : Bool := match P.underlying t with | some (.map _ _) => true | _ => false
def methodB (P : Program) (F : List Nat) (name : String) : Bool := P.types.all fun i => match i.methods.find? (·.name == name) with
  | some m => (match m.func with | some (f, _) => F.elem f | none => true)
  | none => true
def okCallB (P : Program) (F gl I : List Nat) (c : Call) : Bool := c.args.all (okOperandB F gl I) && (match c.callee with
  | .builtin b => okBuiltinB P c.argTypes b
  | .value f => okOperandB F gl I f
  | .invoke r n => okOperandB F gl I r && methodB P F n)
def okOpB (P : Program) (F gl I : List Nat) : Op → Bool
  | .move x | .assign x | .box _ x | .nilCheck x | .unOp _ _ x | .makeInterface _ x | .field _ x _ | .extract x _ => okOperandB F gl I x
  | .pick c a b => okOperandB F gl I c && okOperandB F gl I a && okOperandB F gl I b
  | .alloc t => Nat.blt t P.types.size
  | .build t ps | .buildSlice t _ ps => Nat.blt t P.types.size && ps.toList.all fun p => okOperandB F gl I p.2
  | .load _ x | .fieldAddr _ x _ => okAddrB F gl I x
  | .store _ x y => okAddrB F gl I x && okOperandB F gl I y
  | .indexAddr _ x y | .index _ x y => okOperandB F gl I x && okOperandB F gl I y
  | .makeSlice t x y => Nat.blt t P.types.size && (okOperandB F gl I x && okOperandB F gl I y)
  | .binOp _ _ x y _ => okOperandB F gl I x && okOperandB F gl I y
  | .convert a b x => isIntB P a && isIntB P b && okOperandB F gl I x
  | .makeFunc (.func f) first captured => F.elem f && first.all (okOperandB F gl I) && captured.all (okOperandB F gl I)
  | .slice _ x l h m => okOperandB F gl I x && l.all (okOperandB F gl I) && h.all (okOperandB F gl I) && m.all (okOperandB F gl I)
  | .call c => okCallB P F gl I c
  | .makeMap _ r => r.all (okOperandB F gl I)
  | .lookup t x y _ => mapB P t && (okOperandB F gl I x && okOperandB F gl I y)
  | .mapEntry t x y => (mapB P t && keyB P t) && (okOperandB F gl I x && okOperandB F gl I y)
  | .mapUpdate t m k v | .insert t m k v => keyB P t && (okOperandB F gl I m && (okOperandB F gl I k && okOperandB F gl I v))
  | .entryStore _ m k v => okOperandB F gl I m && (okOperandB F gl I k && okOperandB F gl I v)
  | .range t x => isMapB P t && okOperandB F gl I x
  | .next x b => !b && okOperandB F gl I x
  | .panic _ => true
  | .entry x => okOperandB F gl I x
  | .typeAssert x _ t _ => Nat.blt t P.types.size && okOperandB F gl I x
  | _ => false
def dstB (I : List Nat) (o : Oper) : Bool := match o.dst with | some d => I.elem d | none => true
def slotB (I : List Nat) (o : Oper) : Bool := match o.op with
  | .indexAddr _ _ _ => dstB I o
  | .fieldAddr _ (.tmp x) _ => !(I.elem x) || dstB I o
  | _ => true
def okOperB (P : Program) (F gl I : List Nat) (o : Oper) : Bool := okOpB P F gl I o.op && slotB I o
def okCodeB (P : Program) (F gl I : List Nat) : Code → Bool
  | .skip | .label _ | .exit _ | .ret | .refuse _ => true
  | .region _ ops _ => ops.all fun o => okOperB P F gl I o
  | .seq a b => okCodeB P F gl I a && okCodeB P F gl I b
  | .cond c a b => okOperandB F gl I c && okCodeB P F gl I a && okCodeB P F gl I b
  | .block _ b | .loop b | .scope b => okCodeB P F gl I b
  | .goto _ | .rangeFunc .. => false
section sound
variable {C : Ctx} {F gl I : List Nat}
theorem okOperand_of (hF : ∀ f, F.elem f = true → C.Fn f) {x : Operand} (h : okOperandB F gl I x = true) : okOperand C.Fn (fun g => gl.elem g = true) I.elem x := by
  cases x with
  | tmp d => exact (by simpa [okOperandB] using h : I.elem d = false)
  | const v => exact h
  | global g => exact h
  | func f => exact hF f h
theorem okAddr_of (hF : ∀ f, F.elem f = true → C.Fn f) {x : Operand} (h : okAddrB F gl I x = true) : okAddr C.Fn (fun g => gl.elem g = true) I.elem x := by
  cases x with
  | tmp d => exact trivial
  | const v => exact h
  | global g => exact h
  | func f => exact hF f h
theorem all_ok (hF : ∀ f, F.elem f = true → C.Fn f) {l : Array Operand} (h : l.all (okOperandB F gl I) = true) : ∀ x ∈ l, okOperand C.Fn (fun g => gl.elem g = true) I.elem x :=
  fun x hx => okOperand_of hF (Array.all_eq_true_iff_forall_mem.1 h x hx)
theorem isInt_of {t : TypeId} (h : isIntB C.P t = true) : ∃ k, C.P.underlying t = some (.int k) := by
  unfold isIntB at h
  split at h
  · rename_i k q; exact ⟨k, q⟩
  · cases h
theorem opt_ok (hF : ∀ f, F.elem f = true → C.Fn f) {l : Option Operand} (h : l.all (okOperandB F gl I) = true) : ∀ x ∈ l, okOperand C.Fn (fun g => gl.elem g = true) I.elem x := by
  intro x hx
  cases l with
  | none => cases hx
  | some y => cases hx; exact okOperand_of hF h
theorem struct_no_methods {info : TypeId → Option TypeInfo} {fs : Array Field} {i : TypeInfo} (h : Made.reckonStruct info fs = some i) : i.methods = #[] := by
  unfold Made.reckonStruct at h
  simp only [bind, Option.bind_eq_some_iff] at h
  obtain ⟨s, _, h⟩ := h
  split at h
  · cases h; rfl
  · cases h; rfl
theorem reckon_no_methods {info : TypeId → Option TypeInfo} {d : TypeDesc} {i : TypeInfo} (h : Made.reckon info d = some i) : i.methods = #[] := by
  unfold Made.reckon at h
  cases d with
  | struct fs => exact struct_no_methods h
  | pointer e =>
    simp only [bind, Option.bind_eq_some_iff] at h
    obtain ⟨j, _, h⟩ := h
    split at h
    · cases h
    · split at h
      · cases h
      · simp only [Option.bind_eq_some_iff] at h
        obtain ⟨_, _, h⟩ := h
        cases h; rfl
    · simp only [Option.bind_eq_some_iff] at h
      obtain ⟨_, _, h⟩ := h
      cases h; rfl
  | slice e =>
    simp only [bind, Option.bind_eq_some_iff] at h
    obtain ⟨_, _, _, _, h⟩ := h
    cases h; rfl
  | map k e =>
    simp only [bind, Option.bind_eq_some_iff] at h
    obtain ⟨_, _, _, _, _, _, _, _, h⟩ := h
    cases h; rfl
  | chan d e =>
    simp only [bind, Option.bind_eq_some_iff] at h
    obtain ⟨_, _, _, _, h⟩ := h
    cases h; rfl
  | func a b c =>
    simp only [bind, Option.bind_eq_some_iff] at h
    obtain ⟨_, _, h⟩ := h
    cases h; rfl
  | array n e =>
    simp only [bind, Option.bind_eq_some_iff] at h
    obtain ⟨_, _, _, _, h⟩ := h
    cases h; rfl
  | _ => cases h
theorem made_no_methods {P : Program} {t : TypeId} {i : TypeInfo} (ht : ¬ t < P.types.size) (h : P.info? t = some i) : i.methods = #[] := by
  have e : P.info? t = Made.infoAt P.toTables Made.depth t := if_neg ht
  rw [e] at h
  have e2 : Made.infoAt P.toTables Made.depth t = (Made.decode (t - P.types.size)).bind (Made.reckon (Made.infoAt P.toTables 99)) := if_neg ht
  rw [e2, Option.bind_eq_some_iff] at h
  obtain ⟨d, _, h⟩ := h
  exact reckon_no_methods h
theorem method_of (hF : ∀ f, F.elem f = true → C.Fn f) {name : String} (h : methodB C.P F name = true) : MethodOk C name := by
  intro t i m f b hi hm hf
  by_cases ht : t < C.P.types.size
  · have e : C.P.info? t = C.P.types[t]? := if_pos ht
    rw [e] at hi
    have := Array.all_eq_true_iff_forall_mem.1 h i (Array.mem_of_getElem? hi)
    rw [hm] at this
    simp only [hf] at this
    exact hF f this
  · rw [made_no_methods ht hi] at hm
    cases hm
theorem okCall_of (hF : ∀ f, F.elem f = true → C.Fn f) {c : Call} (h : okCallB C.P F gl I c = true) : okCall C (fun g => gl.elem g = true) I.elem c := by
  unfold okCallB at h
  rw [Bool.and_eq_true] at h
  refine ⟨all_ok hF h.1, ?_⟩
  have h2 := h.2
  cases hc : c.callee with
  | builtin b =>
    rw [hc] at h2
    simp only at h2 ⊢
    cases b <;> first | exact trivial | (cases h2; done) | skip
    unfold okBuiltinB at h2
    simp only [Bool.and_eq_true] at h2
    obtain ⟨h2, h3⟩ := h2
    refine ⟨?_, fun s hs => ?_⟩
    · split at h2
      · rename_i x q
        refine ⟨x, q, fun k hk => ?_⟩
        unfold isIntB at h2
        rw [hk] at h2
        cases h2
      · cases h2
    · rw [hs] at h3
      exact blt_lt h3
  | value f => rw [hc] at h2; exact okOperand_of hF h2
  | invoke r n =>
    rw [hc] at h2
    have h2 : (okOperandB F gl I r && methodB C.P F n) = true := h2
    rw [Bool.and_eq_true] at h2
    exact ⟨okOperand_of hF h2.1, method_of hF h2.2⟩
theorem map_of {t : TypeId} (h : mapB C.P t = true) : MapOk C.P t := by
  intro k e hk
  unfold mapB at h
  rw [hk] at h
  exact blt_lt h
theorem key_of {t : TypeId} (h : keyB C.P t = true) : KeyOk C.P t := by
  intro k e hk
  unfold keyB at h
  rw [hk] at h
  simp only at h
  split at h
  · rename_i d q; exact ⟨d, q, h⟩
  · cases h
theorem three_of (hF : ∀ f, F.elem f = true → C.Fn f) {x y z : Operand} (h : (okOperandB F gl I x && (okOperandB F gl I y && okOperandB F gl I z)) = true) : okOperand C.Fn (fun g => gl.elem g = true) I.elem x ∧ okOperand C.Fn (fun g => gl.elem g = true) I.elem y ∧ okOperand C.Fn (fun g => gl.elem g = true) I.elem z := by
  simp only [Bool.and_eq_true] at h
  exact ⟨okOperand_of hF h.1, okOperand_of hF h.2.1, okOperand_of hF h.2.2⟩
theorem okOp_of (hF : ∀ f, F.elem f = true → C.Fn f) {op : Op} (h : okOpB C.P F gl I op = true) : okOp C (fun g => gl.elem g = true) I.elem op := by
  cases op with
  | move x => exact okOperand_of hF h
  | assign x => exact okOperand_of hF h
  | box t x => exact okOperand_of hF h
  | load t x => exact okAddr_of hF h
  | nilCheck x => exact okOperand_of hF h
  | unOp o t x => exact okOperand_of hF h
  | makeInterface t x => exact okOperand_of hF h
  | fieldAddr t x i => exact okAddr_of hF h
  | field t x i => exact okOperand_of hF h
  | extract x i => exact okOperand_of hF h
  | alloc t => exact blt_lt (show Nat.blt t C.P.types.size = true from h)
  | pick c a b =>
    have h : (okOperandB F gl I c && okOperandB F gl I a && okOperandB F gl I b) = true := h
    simp only [Bool.and_eq_true] at h
    exact ⟨okOperand_of hF h.1.1, okOperand_of hF h.1.2, okOperand_of hF h.2⟩
  | build t ps =>
    have h : (Nat.blt t C.P.types.size && ps.toList.all fun p => okOperandB F gl I p.2) = true := h
    rw [Bool.and_eq_true] at h
    exact ⟨blt_lt h.1, fun p hp => okOperand_of hF (List.all_eq_true.1 h.2 p hp)⟩
  | buildSlice t n ps =>
    have h : (Nat.blt t C.P.types.size && ps.toList.all fun p => okOperandB F gl I p.2) = true := h
    rw [Bool.and_eq_true] at h
    exact ⟨blt_lt h.1, fun p hp => okOperand_of hF (List.all_eq_true.1 h.2 p hp)⟩
  | store t x y =>
    have h : (okAddrB F gl I x && okOperandB F gl I y) = true := h
    rw [Bool.and_eq_true] at h
    exact ⟨okAddr_of hF h.1, okOperand_of hF h.2⟩
  | indexAddr t x y =>
    have h : (okOperandB F gl I x && okOperandB F gl I y) = true := h
    rw [Bool.and_eq_true] at h
    exact ⟨okOperand_of hF h.1, okOperand_of hF h.2⟩
  | index t x y =>
    have h : (okOperandB F gl I x && okOperandB F gl I y) = true := h
    rw [Bool.and_eq_true] at h
    exact ⟨okOperand_of hF h.1, okOperand_of hF h.2⟩
  | makeSlice t x y =>
    have h : (Nat.blt t C.P.types.size && (okOperandB F gl I x && okOperandB F gl I y)) = true := h
    simp only [Bool.and_eq_true] at h
    exact ⟨blt_lt h.1, okOperand_of hF h.2.1, okOperand_of hF h.2.2⟩
  | binOp o t x y yt =>
    have h : (okOperandB F gl I x && okOperandB F gl I y) = true := h
    rw [Bool.and_eq_true] at h
    exact ⟨okOperand_of hF h.1, okOperand_of hF h.2⟩
  | convert a b x =>
    have h : (isIntB C.P a && isIntB C.P b && okOperandB F gl I x) = true := h
    simp only [Bool.and_eq_true] at h
    exact ⟨⟨isInt_of h.1.1, isInt_of h.1.2⟩, okOperand_of hF h.2⟩
  | makeFunc fn first captured =>
    cases fn with
    | func f =>
      have h : (F.elem f && first.all (okOperandB F gl I) && captured.all (okOperandB F gl I)) = true := h
      simp only [Bool.and_eq_true] at h
      exact ⟨hF f h.1.1, all_ok hF h.1.2, all_ok hF h.2⟩
    | _ => cases h
  | slice t x l hh m =>
    have h : (okOperandB F gl I x && l.all (okOperandB F gl I) && hh.all (okOperandB F gl I) && m.all (okOperandB F gl I)) = true := h
    simp only [Bool.and_eq_true] at h
    exact ⟨okOperand_of hF h.1.1.1, opt_ok hF h.1.1.2, opt_ok hF h.1.2, opt_ok hF h.2⟩
  | call c => exact okCall_of hF h
  | makeMap t r => exact opt_ok hF h
  | lookup t x y b =>
    have h : (mapB C.P t && (okOperandB F gl I x && okOperandB F gl I y)) = true := h
    simp only [Bool.and_eq_true] at h
    exact ⟨map_of h.1, okOperand_of hF h.2.1, okOperand_of hF h.2.2⟩
  | mapEntry t x y =>
    have h : ((mapB C.P t && keyB C.P t) && (okOperandB F gl I x && okOperandB F gl I y)) = true := h
    simp only [Bool.and_eq_true] at h
    exact ⟨⟨map_of h.1.1, key_of h.1.2⟩, okOperand_of hF h.2.1, okOperand_of hF h.2.2⟩
  | mapUpdate t m k v =>
    have h : (keyB C.P t && (okOperandB F gl I m && (okOperandB F gl I k && okOperandB F gl I v))) = true := h
    rw [Bool.and_eq_true] at h
    exact ⟨key_of h.1, three_of hF h.2⟩
  | insert t m k v =>
    have h : (keyB C.P t && (okOperandB F gl I m && (okOperandB F gl I k && okOperandB F gl I v))) = true := h
    rw [Bool.and_eq_true] at h
    exact ⟨key_of h.1, three_of hF h.2⟩
  | entryStore t m k v => exact three_of hF h
  | range t x =>
    have h : (isMapB C.P t && okOperandB F gl I x) = true := h
    rw [Bool.and_eq_true] at h
    refine ⟨?_, okOperand_of hF h.2⟩
    have h1 := h.1
    unfold isMapB at h1
    split at h1
    · rename_i k e q; exact ⟨k, e, q⟩
    · cases h1
  | next x b =>
    have h : (!b && okOperandB F gl I x) = true := h
    rw [Bool.and_eq_true] at h
    cases b with
    | true => cases h.1
    | false => exact okOperand_of hF h.2
  | panic x => trivial
  | entry x => exact okOperand_of hF h
  | typeAssert x xt t b =>
    have h : (Nat.blt t C.P.types.size && okOperandB F gl I x) = true := h
    rw [Bool.and_eq_true] at h
    exact ⟨blt_lt h.1, okOperand_of hF h.2⟩
  | _ => cases h
theorem dst_of {o : Oper} (h : dstB I o = true) : ∀ d, o.dst = some d → I.elem d = true := by
  intro d hd
  unfold dstB at h
  rw [hd] at h
  exact h
theorem okOper_of (hF : ∀ f, F.elem f = true → C.Fn f) {o : Oper} (h : okOperB C.P F gl I o = true) : okOper C (fun g => gl.elem g = true) I.elem o := by
  unfold okOperB at h
  rw [Bool.and_eq_true] at h
  refine ⟨okOp_of hF h.1, ?_⟩
  have h2 := h.2
  unfold slotB at h2
  cases hop : o.op with
  | indexAddr t x y => rw [hop] at h2; exact dst_of h2
  | fieldAddr t x i =>
    cases x with
    | tmp x =>
      rw [hop] at h2
      have h2 : (!(I.elem x) || dstB I o) = true := h2
      rw [Bool.or_eq_true] at h2
      intro hx
      have hx : I.elem x = true := hx
      rcases h2 with z | z
      · rw [hx] at z; cases z
      · exact dst_of z
    | _ => exact trivial
  | _ => exact trivial
theorem okCode_of (hF : ∀ f, F.elem f = true → C.Fn f) : ∀ (c : Code), okCodeB C.P F gl I c = true → okCode C (fun g => gl.elem g = true) I.elem c
  | .skip, _ | .label _, _ | .exit _, _ | .ret, _ | .refuse _, _ => trivial
  | .region _ ops _, h => fun o ho => okOper_of hF (Array.all_eq_true_iff_forall_mem.1 (show (ops.all fun o => okOperB C.P F gl I o) = true from h) o ho)
  | .seq a b, h => by
    have h : (okCodeB C.P F gl I a && okCodeB C.P F gl I b) = true := h
    rw [Bool.and_eq_true] at h
    exact ⟨okCode_of hF a h.1, okCode_of hF b h.2⟩
  | .cond c a b, h => by
    have h : (okOperandB F gl I c && okCodeB C.P F gl I a && okCodeB C.P F gl I b) = true := h
    simp only [Bool.and_eq_true] at h
    exact ⟨okOperand_of hF h.1.1, okCode_of hF a h.1.2, okCode_of hF b h.2⟩
  | .block _ b, h => okCode_of hF b h
  | .loop b, h => okCode_of hF b h
  | .scope b, h => okCode_of hF b h
  | .goto _, h => by cases h
  | .rangeFunc .., h => by cases h
end sound
def iaOps (I : List Nat) (ops : Array Oper) : List Nat := ops.toList.filterMap fun o => match o.op with
  | .indexAddr _ _ _ => o.dst
  | .fieldAddr _ (.tmp x) _ => if I.elem x then o.dst else none
  | _ => none
def iaCode (I : List Nat) : Code → List Nat
  | .region _ ops _ => iaOps I ops
  | .seq a b => iaCode I a ++ iaCode I b
  | .cond _ a b => iaCode I a ++ iaCode I b
  | .block _ b | .loop b | .scope b => iaCode I b
  | _ => []
def iaFunc (fn : Func) : List Nat := match fn.body with
  | some b => iaCode (iaCode (iaCode [] b) b) b
  | none => []
def iaP (P : Program) (f : FuncId) : Nat → Bool := match P.funcs[f]? with
  | some fn => (iaFunc fn).elem
  | none => fun _ => false
def resB (I : List Nat) (fn : Func) : Bool := fn.results.all fun r => match r with | .tmp k => !(I.elem k) | .cell k _ => !(I.elem k)
def okFuncB (P : Program) (F gl : List Nat) (f : Nat) : Bool := match P.funcs[f]? with
  | some fn => ((match fn.body with | some b => okCodeB P F gl (iaFunc fn) b | none => false) && resB (iaFunc fn) fn) && !(fn.name == "runtime.NumGoroutine")
  | none => false
theorem res_of {I : List Nat} {fn : Func} (h : resB I fn = true) : ResOk I.elem fn := by
  intro r hr
  have := Array.all_eq_true_iff_forall_mem.1 h r hr
  cases r with
  | tmp k => exact (by simpa using this : I.elem k = false)
  | cell k t => exact (by simpa using this : I.elem k = false)
theorem bodies_of {C : Ctx} {A X gl : List Nat} (hI : C.IA = iaP C.P) (hgl : ∀ g, gl.elem g = true → g < C.G) (hC : ∀ f, C.Fn f ↔ (A ++ X).elem f = true) (h : ∀ f, A.elem f = true → okFuncB C.P (A ++ X) gl f = true)
    (hX : ∀ f, X.elem f = true → ∃ fn, C.P.funcs[f]? = some fn ∧ (fn.name == "runtime.NumGoroutine") = false ∧ fn.body.isNone = true ∧ ExtOk C (fun g => gl.elem g = true) fn) : (Bodies C fun g => gl.elem g = true) ∧ Codes C fun g => gl.elem g = true := by
  have split : ∀ f, C.Fn f → A.elem f = true ∨ X.elem f = true := by
    intro f hf
    have := (hC f).1 hf
    simp only [List.elem_eq_mem, List.mem_append, decide_eq_true_eq] at this ⊢
    exact this
  have ia : ∀ {f : Nat} {fn : Func}, C.P.funcs[f]? = some fn → C.IA f = (iaFunc fn).elem := fun {f} {fn} h => by rw [hI]; unfold iaP; rw [h]
  refine ⟨⟨fun f hf => ?_, hgl⟩, fun f fn hf hfn b hb => ?_⟩
  · rcases split f hf with q | q
    · have := h f q
      unfold okFuncB at this
      split at this
      · rename_i fn q
        simp only [Bool.and_eq_true] at this
        refine ⟨fn, q, by rw [ia q]; exact res_of this.1.2, by simpa using this.2, .inl ?_⟩
        cases hb : fn.body with
        | none => rw [hb] at this; cases this.1.1
        | some b => rfl
      · cases this
    · obtain ⟨fn, h1, h2, h3, h4⟩ := hX f q
      refine ⟨fn, h1, ?_, h2, .inr ⟨h3, h4⟩⟩
      rw [ia h1]
      have e : iaFunc fn = [] := by
        unfold iaFunc
        cases hb : fn.body with
        | none => rfl
        | some b => rw [hb] at h3; cases h3
      rw [e]
      intro r _
      cases r <;> rfl
  · rcases split f hf with q | q
    · have := h f q
      unfold okFuncB at this
      rw [hfn] at this
      simp only [Bool.and_eq_true, hb] at this
      rw [ia hfn]
      exact okCode_of (fun f q => (hC f).2 q) b this.1.1
    · obtain ⟨fn', h1, _, h3, _⟩ := hX f q
      rw [hfn] at h1
      cases h1
      rw [hb] at h3
      cases h3
def zeroB (P : Program) (i : TypeInfo) : Bool := (match i.zero with | some v => plainN 50 v | none => true) && (match i.desc with | .slice e => Nat.blt e P.types.size | .named _ u => Nat.blt u P.types.size | _ => true)
def zerosB (P : Program) : Bool := P.types.all (zeroB P)
theorem zeros_of {P : Program} (h : zerosB P = true) : Zeros P := by
  have all : ∀ t i, t < P.types.size → P.info? t = some i → zeroB P i = true := by
    intro t i ht hi
    have e : P.info? t = P.types[t]? := if_pos ht
    rw [e] at hi
    exact Array.all_eq_true_iff_forall_mem.1 h i (Array.mem_of_getElem? hi)
  refine ⟨fun t i v ht hi hv => ?_, fun t el ht hu => ?_⟩
  · have := all t i ht hi
    unfold zeroB at this
    rw [Bool.and_eq_true, hv] at this
    exact this.1
  · unfold Program.underlying at hu
    cases hi : P.info? t with
    | none => rw [hi] at hu; cases hu
    | some i =>
      rw [hi] at hu
      have h1 := all t i ht hi
      unfold zeroB at h1
      rw [Bool.and_eq_true] at h1
      rcases i with ⟨desc⟩
      cases desc with
      | named n u =>
        have hlt : u < P.types.size := blt_lt h1.2
        have hu : (P.info? u).map (·.desc) = some (.slice el) := hu
        cases hj : P.info? u with
        | none => rw [hj] at hu; cases hu
        | some j =>
          rw [hj] at hu
          have h2 := all u j hlt hj
          unfold zeroB at h2
          have hd : j.desc = .slice el := Option.some.inj hu
          rw [Bool.and_eq_true, hd] at h2
          exact blt_lt h2.2
      | slice e =>
        have hd : TypeDesc.slice e = .slice el := Option.some.inj hu
        cases hd
        exact blt_lt h1.2
      | _ => cases hu
end Go.Proofs.YtmbfdhekplnoaaaDoor

namespace Go.Proofs.YtmbfdhekplnoaaaDoor
open Go Go.Conc

structure Kin where
  P : Program
  fn : FuncId → Prop
  G : Nat
  hG : P.globals.size < G
  Gl : Nat → Prop
  hZ : Zeros P
  hB : ∀ Fz ro rof fzn self, Bodies ⟨P, ⟨fn, ro⟩, Fz, G, hG, rof, iaP P, fzn, self⟩ Gl ∧ Codes ⟨P, ⟨fn, ro⟩, Fz, G, hG, rof, iaP P, fzn, self⟩ Gl
def Kin.Fn (k : Kin) (R : List Nat) : FnR := ⟨k.fn, fun a => R.elem a = true⟩
section kin
variable {k : Kin} {W : World} {S R : List Nat}
def frz (S R : List Nat) (i : Nat) : Nat → Bool := fun a => R.elem a || (a == i && S.elem i)
def Mk (S R : List Nat) (F : Nat → Bool) : Prop := (∀ a, F a = true → S.elem a = true) ∧ ∀ a b, F a = true → F b = true → a = b ∨ R.elem a = true ∨ R.elem b = true
theorem frz_mk (hr : ∀ a, R.elem a = true → S.elem a = true) (i : Nat) : Mk S R (frz S R i) := by
  have is : ∀ a, frz S R i a = true → R.elem a = true ∨ (a = i ∧ S.elem i = true) := fun a h => by
    unfold frz at h
    rw [Bool.or_eq_true, Bool.and_eq_true] at h
    exact h.imp id fun z => ⟨by simpa using z.1, z.2⟩
  refine ⟨fun a h => ?_, fun a b h1 h2 => ?_⟩
  · rcases is a h with z | ⟨rfl, z⟩
    · exact hr a z
    · exact z
  · rcases is a h1 with z | ⟨rfl, _⟩
    · exact .inr (.inl z)
    · rcases is b h2 with z | ⟨rfl, _⟩
      · exact .inr (.inr z)
      · exact .inl rfl
noncomputable def Kin.job (k : Kin) (W : World) (S R : List Nat) (hS : Shared k.G W S R) (hgl : ∀ g, k.Gl g → S.elem g = true) (a : Frame) (Q : (Nat → Bool) → Ending → World → Prop) : Job Nat where
  P := k.P
  Fn := k.Fn R
  G := k.G
  hG := k.hG
  Fz i a := frz S R i a = true ∧ S.elem a = true
  rof i a h := by
    have h : R.elem a = true := h
    refine ⟨⟨?_, (hS.2 a h).1⟩, (hS.2 a h).2⟩
    unfold frz
    rw [h]
    rfl
  IA := iaP k.P
  fzn := cellsIn W
  Gl := k.Gl
  S i := S.elem i = true
  a := a
  w i := loneW (k.Fn R) W S (frz S R i)
  Q i := Q (frz S R i)
  hZ := k.hZ
  gls := hgl
variable {hS : Shared k.G W S R} {hgl : ∀ g, k.Gl g → S.elem g = true} {a : Frame} {Q : (Nat → Bool) → Ending → World → Prop}
theorem Kin.known (h : ∀ F, Mk S R F → Returns k.P ⟨a, [], loneW (k.Fn R) W S F⟩ (Q F)) : (k.job W S R hS hgl a Q).Known where
  hB _ := (k.hB _ _ _ _ _).1
  hC _ := (k.hB _ _ _ _ _).2
  hB' _ := (k.hB _ _ _ _ _).1
  hC' _ := (k.hB _ _ _ _ _).2
  hR i := h (frz S R i) (frz_mk (fun a q => (hS.2 a q).1) i)
  cover s hs := ⟨s, by
    have hs : S.elem s = true := hs
    show frz S R s s = true ∧ S.elem s = true
    unfold frz
    rw [hs]
    simp⟩
theorem Kin.marked (i : Nat) : Marked ((k.job W S R hS hgl a Q).C i) W S R (frz S R i) := ⟨fun _ => Iff.rfl, fun _ => Iff.rfl, fun a h => by unfold frz; rw [h]; rfl, fun _ => rfl⟩
theorem Kin.marked' (i : Nat) : Marked ((k.job W S R hS hgl a Q).D i) W S R (frz S R i) := ⟨fun _ => Iff.rfl, fun _ => Iff.rfl, fun a h => by unfold frz; rw [h]; rfl, fun _ => rfl⟩
theorem Kin.wr (hG : k.G ≤ W.heap.size) (i : Nat) : WR ((k.job W S R hS hgl a Q).C i) (IdS (k.job W S R hS hgl a Q).S) (World.tp ((k.job W S R hS hgl a Q).w i) W.tape W.drawn) W :=
  wr_lone (C := (k.job W S R hS hgl a Q).C i) hS (Kin.marked i) rfl hG _ _ rfl rfl
theorem Kin.ws (hG : k.G ≤ W.heap.size) (i : Nat) : WR ((k.job W S R hS hgl a Q).D i) (IdS (k.job W S R hS hgl a Q).S) ((k.job W S R hS hgl a Q).w i) ((k.job W S R hS hgl a Q).w i) :=
  wr_self (C := (k.job W S R hS hgl a Q).D i) hS (Kin.marked' i) rfl hG
structure Came (k : Kin) (S R : List Nat) (Q : Ending → World → Prop) (N : Nat → Prop) (v' : Value) (W : World) (v : Value) (w : World) (ρ : Brel) : Prop where
  q : ∃ T D, Q (.returned v) (World.tp w T D)
  v : VR (k.Fn R) ρ v v'
  obj : ∀ a b, ρ a b → ∃ o o', w.heap[a]? = some o ∧ W.heap[b]? = some o' ∧ OR (k.Fn R) ρ o o'
  sh : ∀ s, S.elem s = true → ρ s s
  img : ∀ a c, ρ a c → N c ∨ (a = c ∧ S.elem c = true)
  one : One ρ
  bare : ∀ a c, ρ a c → S.elem c = false → ∀ d e g, W.heap[c]? = some (.cells d e g) → g = (0, 0)
theorem Done.came {i : Nat} {N : Nat → Prop} {v : Value} {W' : World} (h : Done (k.job W S R hS hgl a Q) i N v W') : ∃ u w ρ, Came k S R (Q (frz S R i)) N v W' u w ρ := by
  obtain ⟨u, x, T, D, ρ, h1, h2, h3, h4, h5⟩ := h
  refine ⟨u, x, ρ, ⟨T, D, h1⟩, h2, fun a b r => h3.obj r, h4, h5, h3.one, fun a c r hc d e g q => ?_⟩
  obtain ⟨o, o', g1, g2, g3⟩ := h3.obj r
  rw [g2] at q
  cases q
  cases g3 with
  | @cells c _ _ f _ hv hf =>
    refine hf ?_
    rcases h3.fr r c e f g1 with z | ⟨z, _⟩
    · exact z
    · have z : frz S R i a = true ∧ S.elem a = true := z
      have e1 := h3.one.fn r (h4 a z.2)
      rw [e1, z.2] at hc
      cases hc
variable {main : Bool} {Sh O : Nat → Prop} {Stop : (Nat → Prop) → Goroutine → World → Prop}
theorem Kin.callW (hgl : ∀ g, k.Gl g → S.elem g = true) (hS : Shared k.G W S R) (hG : k.G ≤ W.heap.size) {f : FuncId} (hf : k.fn f) {args : Array Value} (ha : VRs (k.Fn R) (IdS fun i => S.elem i = true) args args)
    {Q : (Nat → Bool) → Ending → World → Prop} (h : ∀ F, Mk S R F → ∀ T, Calls k.P f args (World.tp (loneW (k.Fn R) W S F) T 0) (Q F)) (hQ : ∀ F e w, Q F e w → ∃ v, e = .returned v)
    (hSO : ∀ b, S.elem b = true → Sh b ∨ O b) (hO : ∀ b, O b ∨ Sh b → b < W.heap.size) {Post : (Nat → Prop) → Value → World → Prop}
    (hpost : ∀ N v W', (∀ b, N b → W.heap.size ≤ b ∧ b < W'.heap.size) → Rely O Sh W W' → (∃ F, Mk S R F ∧ ∃ u w ρ, Came k S R (Q F) N v W' u w ρ) → Post (fun b => N b ∨ O b) v W') : CallW k.P main Sh Stop f args O W Post :=
  callW_lone (K := k.job W S R hS hgl (Frame.enter k.P f args .normal) Q) (Kin.known fun F hF => Returns.of_calls (h F hF) (hQ F)) 0 hf rfl ha ha (Kin.wr hG) (Kin.ws hG) hSO hO
    fun N v W' h1 h2 h3 => hpost N v W' h1 h2 ⟨frz S R 0, frz_mk (fun a q => (hS.2 a q).1) 0, (h3 0).came⟩
theorem Kin.restW (hgl : ∀ g, k.Gl g → S.elem g = true) (hS : Shared k.G W S R) (hG : k.G ≤ W.heap.size) {a b : Frame} (hb : ∀ C : Ctx, C.P = k.P → C.Fn = k.Fn R → C.IA = iaP k.P → FR C k.Gl (IdS fun i => S.elem i = true) a b) (hs : ∀ C : Ctx, C.P = k.P → C.Fn = k.Fn R → C.IA = iaP k.P → FR C k.Gl (IdS fun i => S.elem i = true) a a)
    {Q : (Nat → Bool) → Ending → World → Prop} (h : ∀ F, Mk S R F → Returns k.P ⟨a, [], loneW (k.Fn R) W S F⟩ (Q F))
    (hSO : ∀ b, S.elem b = true → Sh b ∨ O b) (hO : ∀ b, O b ∨ Sh b → b < W.heap.size) (c : Frame) (cs : List Frame)
    (hpost : ∀ N v W', (∀ b, N b → W.heap.size ≤ b ∧ b < W'.heap.size) → Rely O Sh W W' → (∃ F, Mk S R F ∧ ∃ u w ρ, Came k S R (Q F) N v W' u w ρ) → Walks k.P main Sh Stop (fun b => N b ∨ O b) (Conc.G (c.finish v) cs) W') : Walks k.P main Sh Stop O (Conc.G b (c :: cs)) W :=
  Go.Proofs.YtmbfdhekplnoaaaDoor.restW (K := k.job W S R hS hgl a Q) (Kin.known h) 0 (fun _ => hb _ rfl rfl rfl) (fun _ => hs _ rfl rfl rfl) (Kin.wr hG) (Kin.ws hG) hSO hO c cs
    fun N v W' h1 h2 h3 => hpost N v W' h1 h2 ⟨frz S R 0, frz_mk (fun a q => (hS.2 a q).1) 0, (h3 0).came⟩
theorem Kin.lastW (hgl : ∀ g, k.Gl g → S.elem g = true) (hS : Shared k.G W S R) (hG : k.G ≤ W.heap.size) {a b : Frame} (hb : ∀ C : Ctx, C.P = k.P → C.Fn = k.Fn R → C.IA = iaP k.P → FR C k.Gl (IdS fun i => S.elem i = true) a b) (hs : ∀ C : Ctx, C.P = k.P → C.Fn = k.Fn R → C.IA = iaP k.P → FR C k.Gl (IdS fun i => S.elem i = true) a a)
    {g : Func} (hg : k.P.funcs[a.fn]? = some g) {val : Array Value → Value} (hres : ∀ t W, (Go.results g t).runT k.P W #[] = (.ok (val t) W, #[])) (hin : k.P.inits.idxOf? a.fn = none)
    {Q : (Nat → Bool) → Ending → World → Prop} (h : ∀ F, Mk S R F → Returns k.P ⟨a, [], loneW (k.Fn R) W S F⟩ (Q F))
    (hSO : ∀ b, S.elem b = true → Sh b ∨ O b) (hO : ∀ b, O b ∨ Sh b → b < W.heap.size) {Post : Value → World → Prop}
    (hpost : ∀ N v W', (∀ b, N b → W.heap.size ≤ b ∧ b < W'.heap.size) → Rely O Sh W W' → (∃ F, Mk S R F ∧ ∃ u w ρ, Came k S R (Q F) N v W' u w ρ) → Post v W') : Walks k.P true Sh (Ends k.P Sh Post) O (Conc.G b []) W :=
  Go.Proofs.YtmbfdhekplnoaaaDoor.lastW (K := k.job W S R hS hgl a Q) (Kin.known h) 0 hg hres hin (fun _ => hb _ rfl rfl rfl) (fun _ => hs _ rfl rfl rfl) (Kin.wr hG) (Kin.ws hG) hSO hO
    fun N v W' h1 h2 h3 => hpost N v W' h1 h2 ⟨frz S R 0, frz_mk (fun a q => (hS.2 a q).1) 0, (h3 0).came⟩
end kin
theorem came_cell {Fn : FnR} {ρ : Brel} {w W : World} (h : ∀ a b, ρ a b → ∃ o o', w.heap[a]? = some o ∧ W.heap[b]? = some o' ∧ OR Fn ρ o o') {m m' off : Nat} {v : Value} (hm : ρ m m') (hc : w.cell? ⟨m, off, none⟩ = some v) :
    ∃ v', W.cell? ⟨m', off, none⟩ = some v' ∧ VR Fn ρ v v' := by
  obtain ⟨o, o', h1, h2, h3⟩ := h m m' hm
  unfold World.cell? at hc ⊢
  simp only [h1] at hc
  simp only [h2]
  cases h3 with
  | @cells c d e f g hv hf =>
    simp only at hc ⊢
    have e : d[off]? = some (d[off]?.getD undef) := by
      cases hd : d[off]? with
      | some x => rfl
      | none =>
        have := hv.1
        have q := Array.getElem?_eq_none_iff.1 hd
        have z : c[off]? = none := Array.getElem?_eq_none_iff.2 (by omega)
        simp [z] at hc
    refine ⟨_, by simpa using e, hv.2 off v _ (by simpa using hc) e⟩
  | _ => simp at hc
end Go.Proofs.YtmbfdhekplnoaaaDoor
