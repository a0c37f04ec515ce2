/-
  Values, objects and worlds that are alike but for the numbers of their blocks; what one entry does in the one it does in the other.
  What one entry does in the one world it does in the other that is alike: the entries' own steps.
  What one entry does in the one world it does in the other that is alike: types, rows of cells, numbers.
-/
import Derived.Conc.Events
import Derived.Conc.Own
namespace Go.Proofs.YtmbfdhekplnoaaaDoor
open Go

abbrev Brel := Nat → Nat → Prop
structure One (ρ : Brel) : Prop where
  fn : ∀ {a b c : Nat}, ρ a b → ρ a c → b = c
  inj : ∀ {a b c : Nat}, ρ a c → ρ b c → a = b
def Brel.and (ρ : Brel) (n m : Nat) : Brel := fun a b => ρ a b ∨ (a = n ∧ b = m)
def AR (ρ : Brel) (a b : Addr) : Prop := ρ a.block b.block ∧ b.off = a.off ∧ b.spot = a.spot
def AO (ρ : Brel) : Option Addr → Option Addr → Prop
  | none, none => True
  | some a, some b => AR ρ a b
  | _, _ => False
def NO (ρ : Brel) : Option Nat → Option Nat → Prop
  | none, none => True
  | some a, some b => ρ a b
  | _, _ => False
structure FnR where
  fn : FuncId → Prop
  ro : Nat → Prop
instance : CoeFun FnR fun _ => FuncId → Prop := ⟨FnR.fn⟩
def jk : Value → Bool
  | .agg _ => false
  | .bool _ => false
  | .int _ _ => false
  | .string _ => false
  | .nilIface => false
  | .pointer none => false
  | .nilFunc => false
  | .slice none _ _ => false
  | .map none => false
  | .chan none => false
  | .func (.method _) _ _ => false
  | _ => true
theorem jk_cells {y : Value} (h : jk y = true) : y.cells = #[y] := by
  cases y <;> first | rfl | cases h
inductive VR (Fn : FnR) (ρ : Brel) : Value → Value → Prop
  | bool (b : Bool) : VR Fn ρ (.bool b) (.bool b)
  | int (k : IntKind) (n : Int) : VR Fn ρ (.int k n) (.int k n)
  | string (s : ByteArray) : VR Fn ρ (.string s) (.string s)
  | nilPtr : VR Fn ρ (.pointer none) (.pointer none)
  | ptr {a b : Addr} (h : AR ρ a b) (hn : ¬ Fn.ro a.block) : VR Fn ρ (.pointer (some a)) (.pointer (some b))
  | nilSlice (n c : Nat) : VR Fn ρ (.slice none n c) (.slice none n c)
  | sl {a b : Addr} (h : AR ρ a b) (n c : Nat) : VR Fn ρ (.slice (some a) n c) (.slice (some b) n c)
  | nilMap : VR Fn ρ (.map none) (.map none)
  | mp {a b : Nat} (h : ρ a b) : VR Fn ρ (.map (some a)) (.map (some b))
  | nilChan : VR Fn ρ (.chan none) (.chan none)
  | func {f : FuncId} (hf : Fn f) {xs ys us vs : Array Value} (h1 : xs.size = ys.size) (h2 : ∀ (i : Nat) (x y : Value), xs[i]? = some x → ys[i]? = some y → VR Fn ρ x y)
      (h3 : us.size = vs.size) (h4 : ∀ (i : Nat) (x y : Value), us[i]? = some x → vs[i]? = some y → VR Fn ρ x y) : VR Fn ρ (.func (.func f) xs us) (.func (.func f) ys vs)
  | nilFunc : VR Fn ρ .nilFunc .nilFunc
  | iface (t : TypeId) {x y : Value} (h : VR Fn ρ x y) : VR Fn ρ (.iface t x) (.iface t y)
  | nilIface : VR Fn ρ .nilIface .nilIface
  | agg {xs ys : Array Value} (h1 : xs.size = ys.size) (h2 : ∀ (i : Nat) (x y : Value), xs[i]? = some x → ys[i]? = some y → VR Fn ρ x y) : VR Fn ρ (.agg xs) (.agg ys)
  | tuple {xs ys : Array Value} (h1 : xs.size = ys.size) (h2 : ∀ (i : Nat) (x y : Value), xs[i]? = some x → ys[i]? = some y → VR Fn ρ x y) : VR Fn ρ (.tuple xs) (.tuple ys)
  | junk {y : Value} (h : jk y = true) : VR Fn ρ undef y
  | mfunc (n : String) (fs cs : Array Value) : VR Fn ρ (.func (.method "") #[.nilIface] #[]) (.func (.method n) fs cs)
def VRs (Fn : FnR) (ρ : Brel) (xs ys : Array Value) : Prop := xs.size = ys.size ∧ ∀ (i : Nat) (x y : Value), xs[i]? = some x → ys[i]? = some y → VR Fn ρ x y
def Ext (ρ ρ' : Brel) : Prop := ∀ a b, ρ a b → ρ' a b
def AN (Fn : FnR) (ρ : Brel) (a b : Addr) : Prop := AR ρ a b ∧ ¬ Fn.ro a.block
def RP (Fn : FnR) (ρ : Brel) (x y : Value) : Prop := ∃ a b, x = .pointer (some a) ∧ y = .pointer (some b) ∧ AR ρ a b ∧ Fn.ro a.block
def VP (Fn : FnR) (ρ : Brel) (x y : Value) : Prop := VR Fn ρ x y ∨ RP Fn ρ x y
theorem VP.of {Fn : FnR} {ρ : Brel} {a b : Addr} (h : AR ρ a b) : VP Fn ρ (.pointer (some a)) (.pointer (some b)) := by
  rcases Classical.em (Fn.ro a.block) with q | q
  · exact .inr ⟨a, b, rfl, rfl, h, q⟩
  · exact .inl (.ptr h q)
theorem Ext.refl (ρ : Brel) : Ext ρ ρ := fun _ _ h => h
theorem Ext.trans {ρ ρ' ρ'' : Brel} (h : Ext ρ ρ') (k : Ext ρ' ρ'') : Ext ρ ρ'' := fun a b x => k a b (h a b x)
theorem AR.mono {ρ ρ' : Brel} {a b : Addr} (h : AR ρ a b) (e : Ext ρ ρ') : AR ρ' a b := ⟨e _ _ h.1, h.2⟩
theorem AO.mono {ρ ρ' : Brel} {a b : Option Addr} (h : AO ρ a b) (e : Ext ρ ρ') : AO ρ' a b := by
  cases a <;> cases b <;> first | exact h | exact AR.mono h e
theorem NO.mono {ρ ρ' : Brel} {a b : Option Nat} (h : NO ρ a b) (e : Ext ρ ρ') : NO ρ' a b := by
  cases a <;> cases b <;> first | exact h | exact e _ _ h
theorem VR.mono {Fn : FnR} {ρ ρ' : Brel} {x y : Value} (h : VR Fn ρ x y) (e : Ext ρ ρ') : VR Fn ρ' x y := by
  induction h with
  | bool b => exact .bool b
  | int k n => exact .int k n
  | string s => exact .string s
  | nilPtr => exact .nilPtr
  | ptr h hn => exact .ptr (h.mono e) hn
  | nilSlice n c => exact .nilSlice n c
  | sl h n c => exact .sl (h.mono e) n c
  | nilMap => exact .nilMap
  | mp h => exact .mp (e _ _ h)
  | nilChan => exact .nilChan
  | func hf h1 _ h3 _ i2 i4 => exact .func hf h1 i2 h3 i4
  | nilFunc => exact .nilFunc
  | iface t _ i => exact .iface t i
  | nilIface => exact .nilIface
  | agg h1 _ i => exact .agg h1 i
  | tuple h1 _ i => exact .tuple h1 i
  | junk h => exact .junk h
  | mfunc n fs cs => exact .mfunc n fs cs
theorem RP.mono {Fn : FnR} {ρ ρ' : Brel} {x y : Value} (h : RP Fn ρ x y) (e : Ext ρ ρ') : RP Fn ρ' x y := by
  obtain ⟨a, b, h1, h2, h3, h4⟩ := h
  exact ⟨a, b, h1, h2, h3.mono e, h4⟩
def VPs (Fn : FnR) (ρ : Brel) (I : Nat → Bool) (xs ys : Array Value) : Prop := xs.size = ys.size ∧ ∀ (i : Nat) (x y : Value), xs[i]? = some x → ys[i]? = some y → VR Fn ρ x y ∨ (I i = true ∧ RP Fn ρ x y)
theorem VPs.mono {Fn : FnR} {ρ ρ' : Brel} {I : Nat → Bool} {xs ys : Array Value} (h : VPs Fn ρ I xs ys) (e : Ext ρ ρ') : VPs Fn ρ' I xs ys := ⟨h.1, fun i x y a b => (h.2 i x y a b).imp (·.mono e) fun z => ⟨z.1, z.2.mono e⟩⟩
theorem VPs.of {Fn : FnR} {ρ : Brel} {I : Nat → Bool} {xs ys : Array Value} (h : VRs Fn ρ xs ys) : VPs Fn ρ I xs ys := ⟨h.1, fun i x y a b => .inl (h.2 i x y a b)⟩
theorem VPs.at {Fn : FnR} {ρ : Brel} {I : Nat → Bool} {xs ys : Array Value} {x : Value} (h : VPs Fn ρ I xs ys) {i : Nat} (hx : xs[i]? = some x) : ∃ y, ys[i]? = some y ∧ (VR Fn ρ x y ∨ (I i = true ∧ RP Fn ρ x y)) := by
  have hi : i < xs.size := by rw [Array.getElem?_eq_some_iff] at hx; exact hx.1
  have hj : i < ys.size := h.1 ▸ hi
  exact ⟨ys[i], by simp [hj], h.2 i _ _ hx (by simp [hj])⟩
theorem VPs.none_at {Fn : FnR} {ρ : Brel} {I : Nat → Bool} {xs ys : Array Value} (h : VPs Fn ρ I xs ys) {i : Nat} (hx : xs[i]? = none) : ys[i]? = none := by
  rw [Array.getElem?_eq_none_iff] at hx ⊢; rw [← h.1]; exact hx
theorem VPs.set {Fn : FnR} {ρ : Brel} {I : Nat → Bool} {xs ys : Array Value} {x y : Value} (h : VPs Fn ρ I xs ys) (i : Nat) (hv : VR Fn ρ x y ∨ (I i = true ∧ RP Fn ρ x y)) : VPs Fn ρ I (xs.setIfInBounds i x) (ys.setIfInBounds i y) := by
  refine ⟨by simp [h.1], fun k a b ha hb => ?_⟩
  rw [Array.getElem?_setIfInBounds] at ha hb
  rw [← h.1] at hb
  split at ha
  · rename_i e
    rw [if_pos e] at hb
    split at ha
    · rename_i e2
      rw [if_pos e2] at hb
      cases ha; cases hb; rw [← e]; exact hv
    · cases ha
  · rename_i e
    rw [if_neg e] at hb
    exact h.2 _ a b ha hb
theorem VRs.mono {Fn : FnR} {ρ ρ' : Brel} {xs ys : Array Value} (h : VRs Fn ρ xs ys) (e : Ext ρ ρ') : VRs Fn ρ' xs ys := ⟨h.1, fun i x y a b => (h.2 i x y a b).mono e⟩

theorem VR.slice {Fn : FnR} {ρ : Brel} {a b : Option Addr} (h : AO ρ a b) (n c : Nat) : VR Fn ρ (.slice a n c) (.slice b n c) := by
  cases a <;> cases b <;> first | exact h.elim | exact .nilSlice n c | exact .sl h n c
section rows
variable {Fn : FnR} {ρ : Brel} {xs ys us vs : Array Value} {x y : Value}
theorem VRs.nil : VRs Fn ρ #[] #[] := ⟨rfl, fun i x y h => by simp at h⟩
theorem VRs.at (h : VRs Fn ρ xs ys) {i : Nat} (hx : xs[i]? = some x) : ∃ y, ys[i]? = some y ∧ VR Fn ρ x y := by
  have hi : i < xs.size := by rw [Array.getElem?_eq_some_iff] at hx; exact hx.1
  have hj : i < ys.size := h.1 ▸ hi
  exact ⟨ys[i], by simp [hj], h.2 i _ _ hx (by simp [hj])⟩
theorem VRs.none_at (h : VRs Fn ρ xs ys) {i : Nat} (hx : xs[i]? = none) : ys[i]? = none := by
  rw [Array.getElem?_eq_none_iff] at hx ⊢; rw [← h.1]; exact hx
theorem VRs.push (h : VRs Fn ρ xs ys) (hv : VR Fn ρ x y) : VRs Fn ρ (xs.push x) (ys.push y) := by
  refine ⟨by simp [h.1], fun i a b ha hb => ?_⟩
  rw [Array.getElem?_push] at ha hb
  rw [← h.1] at hb
  split at ha
  · rename_i e
    rw [if_pos e] at hb
    cases ha; cases hb; exact hv
  · rename_i e
    rw [if_neg e] at hb
    exact h.2 i a b ha hb
theorem VRs.append (h : VRs Fn ρ xs ys) (k : VRs Fn ρ us vs) : VRs Fn ρ (xs ++ us) (ys ++ vs) := by
  refine ⟨by simp [h.1, k.1], fun i a b ha hb => ?_⟩
  rw [Array.getElem?_append] at ha hb
  rw [← h.1] at hb
  split at ha
  · rename_i e
    rw [if_pos e] at hb
    exact h.2 i a b ha hb
  · rename_i e
    rw [if_neg e] at hb
    exact k.2 _ a b ha hb
theorem VRs.extract (h : VRs Fn ρ xs ys) (i j : Nat) : VRs Fn ρ (xs.extract i j) (ys.extract i j) := by
  refine ⟨by simp [h.1], fun k a b ha hb => ?_⟩
  rw [Array.getElem?_extract] at ha hb
  rw [← h.1] at hb
  split at ha
  · rename_i e
    rw [if_pos e] at hb
    exact h.2 _ a b ha hb
  · cases ha
theorem VRs.set (h : VRs Fn ρ xs ys) (hv : VR Fn ρ x y) (i : Nat) : VRs Fn ρ (xs.setIfInBounds i x) (ys.setIfInBounds i y) := by
  refine ⟨by simp [h.1], fun k a b ha hb => ?_⟩
  rw [Array.getElem?_setIfInBounds] at ha hb
  rw [← h.1] at hb
  split at ha
  · rename_i e
    rw [if_pos e] at hb
    split at ha
    · rename_i e2
      rw [if_pos e2] at hb
      cases ha; cases hb; exact hv
    · cases ha
  · rename_i e
    rw [if_neg e] at hb
    exact h.2 _ a b ha hb
theorem VRs.getD (h : VRs Fn ρ xs ys) (hv : VR Fn ρ x y) (i : Nat) : VR Fn ρ (xs.getD i x) (ys.getD i y) := by
  rw [Array.getD_eq_getD_getElem?, Array.getD_eq_getD_getElem?]
  cases hx : xs[i]? with
  | none => rw [h.none_at hx]; exact hv
  | some a => obtain ⟨b, hb, hr⟩ := h.at hx; rw [hb]; exact hr
theorem VRs.replicate (hv : VR Fn ρ x y) (n : Nat) : VRs Fn ρ (Array.replicate n x) (Array.replicate n y) := by
  refine ⟨by simp, fun k a b ha hb => ?_⟩
  rw [Array.getElem?_replicate] at ha hb
  split at ha
  · rename_i e
    rw [if_pos e] at hb
    cases ha; cases hb; exact hv
  · cases ha
theorem VRs.map {α : Type} (l : Array α) (f g : α → Value) (h : ∀ a, a ∈ l → VR Fn ρ (f a) (g a)) : VRs Fn ρ (l.map f) (l.map g) := by
  refine ⟨by simp, fun k a b ha hb => ?_⟩
  rw [Array.getElem?_map] at ha hb
  cases hl : l[k]? with
  | none => rw [hl] at ha; cases ha
  | some z =>
    rw [hl] at ha hb
    cases ha; cases hb
    exact h z (Array.mem_of_getElem? hl)
theorem VRs.one (hv : VR Fn ρ x y) : VRs Fn ρ #[x] #[y] := VRs.push VRs.nil hv
theorem VRs.two {x2 y2 : Value} (hv : VR Fn ρ x y) (h2 : VR Fn ρ x2 y2) : VRs Fn ρ #[x, x2] #[y, y2] := VRs.push (VRs.one hv) h2
theorem VR.tup (h : VRs Fn ρ xs ys) : VR Fn ρ (.tuple xs) (.tuple ys) := .tuple h.1 h.2
theorem VR.ag (h : VRs Fn ρ xs ys) : VR Fn ρ (.agg xs) (.agg ys) := .agg h.1 h.2
theorem VR.undef : VR Fn ρ undef undef := VR.tup VRs.nil
theorem VR.cells (h : VR Fn ρ x y) : VRs Fn ρ x.cells y.cells := by
  cases h with
  | junk h => rw [jk_cells h]; exact VRs.one (.junk h)
  | agg h1 h2 => exact ⟨h1, h2⟩
  | tuple h1 h2 => exact VRs.one (.tuple h1 h2)
  | func hf h1 h2 h3 h4 => exact VRs.one (.func hf h1 h2 h3 h4)
  | _ => refine VRs.one ?_; constructor <;> assumption
end rows
end Go.Proofs.YtmbfdhekplnoaaaDoor

namespace Go.Proofs.YtmbfdhekplnoaaaDoor
open Go

structure Ctx where
  P : Program
  Fn : FnR
  Fz : Nat → Prop
  G : Nat
  hG : P.globals.size < G
  /-- what may bear marks of its own is never written, and no variable -/
  rof : ∀ a, Fn.ro a → Fz a ∧ G ≤ a
  /-- slots for pointers to read or write by -/
  IA : FuncId → Nat → Bool
  /-- how many cells it has -/
  fzn : Nat → Nat
  /-- the one world beside itself -/
  self : Bool
def MR (Fn : FnR) (ρ : Brel) (x y : MapEntry) : Prop := VR Fn ρ x.key y.key ∧ VR Fn ρ x.val y.val ∧ y.born = x.born
def MRs (Fn : FnR) (ρ : Brel) (xs ys : Array MapEntry) : Prop := xs.size = ys.size ∧ ∀ (i : Nat) (x y : MapEntry), xs[i]? = some x → ys[i]? = some y → MR Fn ρ x y
inductive OR (Fn : FnR) (ρ : Brel) : Obj → Obj → Prop
  | cells {c d : Array Value} (e : TypeId) {f g : Nat × Nat} (h : VRs Fn ρ c d) (hf : f = (0, 0) → g = (0, 0)) : OR Fn ρ (.cells c e f) (.cells d e g)
  | map {c d : Array MapEntry} (h : MRs Fn ρ c d) (n : Nat) : OR Fn ρ (.map c n) (.map d n)
  | iter {a b : Option Nat} (h : NO ρ a b) (n : Nat) (s : Array Nat) (k : Nat) : OR Fn ρ (.mapIter a n s k) (.mapIter b n s k)
  | number {a b : Addr} (h : AR ρ a b) (hn : ¬ Fn.ro a.block) (l : Bool) : OR Fn ρ (.number a l) (.number b l)
theorem MR.mono {Fn : FnR} {ρ ρ' : Brel} {x y : MapEntry} (h : MR Fn ρ x y) (e : Ext ρ ρ') : MR Fn ρ' x y := ⟨h.1.mono e, h.2.1.mono e, h.2.2⟩
theorem MRs.mono {Fn : FnR} {ρ ρ' : Brel} {xs ys : Array MapEntry} (h : MRs Fn ρ xs ys) (e : Ext ρ ρ') : MRs Fn ρ' xs ys := ⟨h.1, fun i x y a b => (h.2 i x y a b).mono e⟩
theorem OR.mono {Fn : FnR} {ρ ρ' : Brel} {x y : Obj} (h : OR Fn ρ x y) (e : Ext ρ ρ') : OR Fn ρ' x y := by
  cases h with
  | cells t h hf => exact .cells t (h.mono e) hf
  | map h n => exact .map (h.mono e) n
  | iter h n s k => exact .iter (h.mono e) n s k
  | number h hn l => exact .number (h.mono e) hn l

structure WR (C : Ctx) (ρ : Brel) (w W : World) : Prop where
  one : One ρ
  obj : ∀ {a b : Nat}, ρ a b → ∃ o o', w.heap[a]? = some o ∧ W.heap[b]? = some o' ∧ OR C.Fn ρ o o'
  tape : W.tape = w.tape
  drawn : W.drawn = w.drawn
  fz : ∀ a, C.Fz a → ∃ c e f, w.heap[a]? = some (.cells c e f) ∧ (∀ k, k < c.size → f.1 ≤ k ∧ k < f.2) ∧ c.size = C.fzn a
  fr : ∀ {a b : Nat}, ρ a b → ∀ c e f, w.heap[a]? = some (.cells c e f) → f = (0, 0) ∨ (C.Fz a ∧ c.size = C.fzn a ∧ (f = (0, c.size) ∨ f = (1, 1)))
  fro : ∀ {a b : Nat}, ρ a b → C.Fz a → ∀ d e g, W.heap[b]? = some (.cells d e g) → (C.self = true → g = (0, C.fzn a) ∨ g = (1, 1)) ∧ (C.self = false → g = (0, 0) ∨ C.Fn.ro a)
  low : ∀ {a b : Nat}, ρ a b → a < C.G ∨ b < C.G → b = a
  gw : C.G ≤ w.heap.size
  gW : C.G ≤ W.heap.size
def EvOk (C : Ctx) (ρ : Brel) (e : Event) : Prop :=
  match e.loc with
  | .cell b => e.sync = false ∧ ∃ a, ρ a b.block ∧ (e.write = true → ¬ C.Fz a)
  | .obj b => e.sync = false ∧ ∃ a, ρ a b ∧ (e.write = true → ¬ C.Fz a)
  | .mark .noRoom => True
  | .mark (.extern _) => True
  | _ => False
theorem EvOk.mono {C : Ctx} {ρ ρ' : Brel} {e : Event} (h : EvOk C ρ e) (x : Ext ρ ρ') : EvOk C ρ' e := by
  obtain ⟨loc, wr, sy⟩ := e
  cases loc with
  | cell b =>
    obtain ⟨s, a, r, k⟩ := h
    exact ⟨s, a, x _ _ r, k⟩
  | obj b =>
    obtain ⟨s, a, r, k⟩ := h
    exact ⟨s, a, x _ _ r, k⟩
  | mark m => cases m <;> exact h
  | output => exact h
  | goroutines => exact h
structure Did (C : Ctx) (ρ ρ' : Brel) (W W' : World) (es es' : Array Event) : Prop where
  ext : Ext ρ ρ'
  new : ∀ a b, ρ' a b → ρ a b ∨ W.heap.size ≤ b
  size : W.heap.size ≤ W'.heap.size
  far : ∀ b, b < W.heap.size → (∀ a, ρ a b → C.Fz a) → W'.heap[b]? = W.heap[b]?
  os : W'.os = W.os
  output : W'.output = W.output
  drawn : W.drawn ≤ W'.drawn
  evs : ∃ l, es' = es ++ l ∧ ∀ e ∈ l, EvOk C ρ' e
theorem Did.refl (C : Ctx) (ρ : Brel) (W : World) (es : Array Event) : Did C ρ ρ W W es es :=
  ⟨Ext.refl _, fun _ _ h => .inl h, Nat.le_refl _, fun _ _ _ => rfl, rfl, rfl, Nat.le_refl _, #[], by simp, fun e h => by simp at h⟩
theorem Did.trans {C : Ctx} {ρ ρ' ρ'' : Brel} {W W' W'' : World} {es es' es'' : Array Event} (h : Did C ρ ρ' W W' es es') (k : Did C ρ' ρ'' W' W'' es' es'') : Did C ρ ρ'' W W'' es es'' := by
  obtain ⟨l, e1, h1⟩ := h.evs
  obtain ⟨m, e2, h2⟩ := k.evs
  refine ⟨h.ext.trans k.ext, fun a b r => ?_, Nat.le_trans h.size k.size, fun b hb hn => ?_, k.os.trans h.os, k.output.trans h.output, Nat.le_trans h.drawn k.drawn, l ++ m, by rw [e2, e1, Array.append_assoc], fun e he => ?_⟩
  · rcases k.new a b r with r | r
    · exact h.new a b r
    · exact .inr (Nat.le_trans h.size r)
  · rw [k.far b (Nat.lt_of_lt_of_le hb h.size) fun a r => ?_, h.far b hb hn]
    rcases h.new a b r with r | r
    · exact hn a r
    · exact absurd hb (Nat.not_lt.2 r)
  · rcases Array.mem_append.1 he with q | q
    · exact (h1 e q).mono k.ext
    · exact h2 e q

def Bad : Halt → Prop
  | .panic _ | .stuck _ => True
  | .unsupported (.initOrder _) => False
  | .unsupported _ => True
  | _ => False
def Fine (C : Ctx) {α : Type} (s : Sem α) (w : World) : Prop := ∀ es h w1 es1, s.runT C.P w es = (.halt h w1, es1) → Bad h
def Sim (C : Ctx) {α β : Type} (A : Brel → α → β → Prop) (ρ : Brel) (s : Sem α) (s' : Sem β) : Prop :=
  ∀ (w W : World), WR C ρ w W → Fine C s w ∧ ∀ (es es' : Array Event) a w1 es1, s.runT C.P w es = (.ok a w1, es1) →
    ∃ ρ' a' W1 es1', s'.runT C.P W es' = (.ok a' W1, es1') ∧ A ρ' a a' ∧ WR C ρ' w1 W1 ∧ Did C ρ ρ' W W1 es' es1'

section sim
variable {C : Ctx} {ρ : Brel} {α β γ δ : Type}
theorem Sim.pure {A : Brel → α → β → Prop} {a : α} {b : β} (h : A ρ a b) : Sim C A ρ (Pure.pure a) (Pure.pure b) := by
  intro w W hw
  refine ⟨fun es h w1 es1 hr => (by cases hr), fun es es' x w1 es1 hr => ?_⟩
  obtain ⟨h1, h2⟩ := Prod.mk.inj hr
  cases h1
  exact ⟨ρ, b, W, es', rfl, h, hw, Did.refl _ _ _ _⟩
theorem Sim.bind {A : Brel → α → β → Prop} {B : Brel → γ → δ → Prop} {s : Sem α} {s' : Sem β} {k : α → Sem γ} {k' : β → Sem δ} (h : Sim C A ρ s s') (hk : ∀ ρ' a b, Ext ρ ρ' → A ρ' a b → Sim C B ρ' (k a) (k' b)) :
    Sim C B ρ (s >>= k) (s' >>= k') := by
  intro w W hw
  refine ⟨fun es g w1 es1 hr => ?_, fun es es' x w1 es1 hr => ?_⟩
  · have hr' : (s.bind k).runT C.P w es = (.halt g w1, es1) := hr
    rw [Sem.runT_bind'] at hr'
    split at hr'
    · rename_i a w2 es2 h2
      obtain ⟨ρ2, b, W2, es2', r2, ab, hw2, d2⟩ := (h w W hw).2 es #[] a w2 es2 h2
      exact (hk ρ2 a b d2.ext ab w2 W2 hw2).1 _ _ _ _ hr'
    · rename_i g2 w2 es2 h2
      cases hr'
      exact (h w W hw).1 _ _ _ _ h2
  · have hr' : (s.bind k).runT C.P w es = (.ok x w1, es1) := hr
    rw [Sem.runT_bind'] at hr'
    split at hr'
    · rename_i a w2 es2 h2
      obtain ⟨ρ2, b, W2, es2', r2, ab, hw2, d2⟩ := (h w W hw).2 es es' a w2 es2 h2
      obtain ⟨ρ3, y, W3, es3', r3, xy, hw3, d3⟩ := (hk ρ2 a b d2.ext ab w2 W2 hw2).2 es2 es2' x w1 es1 hr'
      refine ⟨ρ3, y, W3, es3', ?_, xy, hw3, d2.trans d3⟩
      show (s'.bind k').runT C.P W es' = _
      rw [Sem.runT_bind', r2]
      exact r3
    · cases hr'
def Dead (C : Ctx) (s : Sem α) : Prop := ∀ w es, ∃ h w1 es1, s.runT C.P w es = (.halt h w1, es1) ∧ Bad h
theorem Sim.dead {A : Brel → α → β → Prop} {s : Sem α} {s' : Sem β} (h : Dead C s) : Sim C A ρ s s' := by
  intro w W _
  refine ⟨fun es g w1 es1 hr => ?_, fun es es' x w1 es1 hr => ?_⟩
  · obtain ⟨g', w', es'', e, hb⟩ := h w es
    rw [e] at hr
    cases hr; exact hb
  · obtain ⟨g', w', es'', e, hb⟩ := h w es
    rw [e] at hr
    cases hr
theorem Dead.halt (h : Halt) (hb : Bad h := by exact trivial) : Dead C (Sem.halt h : Sem α) := fun w es => ⟨h, w, es, rfl, hb⟩
theorem Dead.bind {s : Sem α} {k : α → Sem β} (h : Dead C s) : Dead C (s >>= k) := by
  intro w es
  obtain ⟨g, w1, es1, e, hb⟩ := h w es
  refine ⟨g, w1, es1, ?_, hb⟩
  show (s.bind k).runT C.P w es = _
  rw [Sem.runT_bind', e]
theorem Dead.then {s : Sem α} {k : α → Sem β} (hs : ∀ w, Fine C s w) (h : ∀ a, Dead C (k a)) : Dead C (s >>= k) := by
  intro w es
  cases e : s.runT C.P w es with
  | mk r es1 =>
    cases r with
    | ok a w1 =>
      obtain ⟨g, w2, es2, e2, hb⟩ := h a w1 es1
      refine ⟨g, w2, es2, ?_, hb⟩
      show (s.bind k).runT C.P w es = _
      rw [Sem.runT_bind', e]
      exact e2
    | halt g w1 =>
      refine ⟨g, w1, es1, ?_, hs w _ _ _ _ e⟩
      show (s.bind k).runT C.P w es = _
      rw [Sem.runT_bind', e]
theorem Sim.mono {A B : Brel → α → β → Prop} {s : Sem α} {s' : Sem β} (h : Sim C A ρ s s') (hab : ∀ ρ' a b, Ext ρ ρ' → A ρ' a b → B ρ' a b) : Sim C B ρ s s' := by
  intro w W hw
  refine ⟨(h w W hw).1, fun es es' x w1 es1 hr => ?_⟩
  obtain ⟨ρ2, b, W2, es2', r2, ab, hw2, d2⟩ := (h w W hw).2 es es' x w1 es1 hr
  exact ⟨ρ2, b, W2, es2', r2, hab _ _ _ d2.ext ab, hw2, d2⟩
theorem Sim.ite {A : Brel → α → β → Prop} {c : Prop} [Decidable c] {s t : Sem α} {s' t' : Sem β} (h : c → Sim C A ρ s s') (k : ¬ c → Sim C A ρ t t') : Sim C A ρ (if c then s else t) (if c then s' else t') := by
  by_cases hc : c
  · rw [if_pos hc, if_pos hc]; exact h hc
  · rw [if_neg hc, if_neg hc]; exact k hc
end sim

/-! memory -/
section mem
variable {C : Ctx} {ρ : Brel} {w W : World}
theorem WR.lt (h : WR C ρ w W) {a b : Nat} (r : ρ a b) : a < w.heap.size ∧ b < W.heap.size := by
  obtain ⟨o, o', h1, h2, _⟩ := h.obj r
  exact ⟨(Array.getElem?_eq_some_iff.1 h1).1, (Array.getElem?_eq_some_iff.1 h2).1⟩
theorem WR.cell (h : WR C ρ w W) {a b : Addr} (r : AR ρ a b) {v : Value} (hv : w.cell? a = some v) : ∃ v', W.cell? b = some v' ∧ VR C.Fn ρ v v' := by
  obtain ⟨o, o', h1, h2, ho⟩ := h.obj r.1
  unfold World.cell? at hv ⊢
  rw [h1] at hv
  rw [h2]
  cases ho with
  | cells e hc hf =>
    simp only at hv ⊢
    rw [r.2.1, r.2.2]
    split at hv
    · cases hv
    · rename_i hs
      rw [if_neg hs]
      exact hc.at hv
  | map hm n => cases hv
  | iter hn n s k => cases hv
  | number hn hno l => cases hv
theorem WR.far_load (h : WR C ρ w W) {a b : Addr} (r : AR ρ a b) (x : Bool) : ∃ s, w.farLoad C.P a x = .error (.stuck s) := by
  obtain ⟨o, o', h1, h2, ho⟩ := h.obj r.1
  unfold World.farLoad World.noCell
  rw [h1]
  cases ho <;> exact ⟨_, rfl⟩
theorem WR.far_store (h : WR C ρ w W) {a b : Addr} (r : AR ρ a b) (v : Value) (x : Bool) : ∃ s, w.farStore C.P a v x = .error (.stuck s) := by
  obtain ⟨o, o', h1, h2, ho⟩ := h.obj r.1
  unfold World.farStore World.noCell
  rw [h1]
  cases ho <;> exact ⟨_, rfl⟩
theorem Sim.load {a b : Addr} (r : AR ρ a b) : Sim C (fun ρ => VR C.Fn ρ) ρ (Go.load a) (Go.load b) := by
  intro w W hw
  unfold Go.load
  obtain ⟨s, hs⟩ := hw.far_load r (Mode.plain == Mode.atomic)
  refine ⟨fun es g w1 es1 hr => ?_, fun es es' x w1 es1 hr => ?_⟩
  · unfold Sem.runT at hr
    cases hc : w.cell? a with
    | none =>
      rw [hc] at hr
      simp only at hr
      rw [hs] at hr
      cases hr
      trivial
    | some v => rw [hc] at hr; cases hr
  · unfold Sem.runT at hr ⊢
    cases hc : w.cell? a with
    | none =>
      rw [hc] at hr
      simp only at hr
      rw [hs] at hr
      cases hr
    | some v =>
      rw [hc] at hr
      obtain ⟨v', hv', hr'⟩ := hw.cell r hc
      rw [hv']
      obtain ⟨h1, h2⟩ := Prod.mk.inj hr
      cases h1
      refine ⟨ρ, v', W, _, rfl, hr', hw, { Did.refl C ρ W es' with evs := ⟨#[⟨.cell b, false, false⟩], by simp; rfl, fun e he => ?_⟩ }⟩
      simp at he
      subst he
      exact ⟨rfl, a.block, r.1, fun q => by cases q⟩
theorem WR.set (h : WR C ρ w W) {a b : Addr} (r : AR ρ a b) {v v' : Value} (hv : VR C.Fn ρ v v') (x : Value) (hx : w.cell? a = some x) (hf : w.frozen? a = false) :
    WR C ρ (w.setCell a v) (W.setCell b v') ∧ ¬ C.Fz a.block ∧ W.frozen? b = false := by
  obtain ⟨o, o', h1, h2, ho⟩ := h.obj r.1
  have hnf : ¬ C.Fz a.block := by
    intro q
    obtain ⟨c, e, f, q1, q2⟩ := h.fz _ q
    unfold World.cell? at hx
    unfold World.frozen? at hf
    rw [q1] at hx hf
    simp only at hx hf
    split at hx
    · cases hx
    · have := q2.1 a.off (Array.getElem?_eq_some_iff.1 hx).1
      simp [this.1, this.2] at hf
  cases ho with
  | map hm n => unfold World.cell? at hx; rw [h1] at hx; cases hx
  | iter hn n s k => unfold World.cell? at hx; rw [h1] at hx; cases hx
  | number hn hno l => unfold World.cell? at hx; rw [h1] at hx; cases hx
  | @cells c d e f g hc hg =>
    have hfb : W.frozen? b = false := by
      have z : g = (0, 0) := hg (by
        rcases h.fr r.1 c e f h1 with z | ⟨z, _⟩
        · exact z
        · exact absurd z hnf)
      unfold World.frozen?
      rw [h2, z]
      simp
    refine ⟨⟨h.one, fun {i j} rij => ?_, h.tape, h.drawn, fun i hi => ?_, fun {i j} rij c' e' f' q => ?_, fun {i j} rij hi d' e' g' q => ?_, h.low, ?_, ?_⟩, hnf, hfb⟩
    · by_cases hi : i = a.block
      · have hj : j = b.block := by subst hi; exact h.one.fn rij r.1
        subst hi; subst hj
        refine ⟨.cells (if a.spot.isSome then c else c.setIfInBounds a.off v) e f, .cells (if b.spot.isSome then d else d.setIfInBounds b.off v') e g, ?_, ?_, .cells e ?_ hg⟩
        · show (w.heap.modify a.block _)[a.block]? = _
          rw [Array.getElem?_modify, if_pos rfl, h1]; rfl
        · show (W.heap.modify b.block _)[b.block]? = _
          rw [Array.getElem?_modify, if_pos rfl, h2]; rfl
        · rw [r.2.1, r.2.2]
          split
          · exact hc
          · exact hc.set hv _
      · have hj : j ≠ b.block := fun q => hi (by subst q; exact h.one.inj rij r.1)
        obtain ⟨o, o', g1, g2, go⟩ := h.obj rij
        refine ⟨o, o', ?_, ?_, go⟩
        · show (w.heap.modify a.block _)[i]? = _
          rw [Array.getElem?_modify, if_neg (fun q => hi q.symm)]; exact g1
        · show (W.heap.modify b.block _)[j]? = _
          rw [Array.getElem?_modify, if_neg (fun q => hj q.symm)]; exact g2
    · obtain ⟨c', e', f', q1, q2⟩ := h.fz _ hi
      refine ⟨c', e', f', ?_, q2⟩
      show (w.heap.modify a.block _)[i]? = _
      rw [Array.getElem?_modify, if_neg (fun q : a.block = i => hnf (q ▸ hi))]; exact q1
    · have q : (w.heap.modify a.block _)[i]? = some (.cells c' e' f') := q
      rw [Array.getElem?_modify] at q
      by_cases hi : a.block = i
      · rw [if_pos hi, ← hi, h1] at q
        have q := Obj.cells.inj (Option.some.inj q)
        obtain ⟨q1, q2, q3⟩ := q
        have z := h.fr r.1 c e f h1
        rw [← q3]
        rcases z with z | ⟨z, _⟩
        · exact .inl z
        · exact absurd z hnf
      · rw [if_neg hi] at q
        exact h.fr rij c' e' f' q
    · have q : (W.heap.modify b.block _)[j]? = some (.cells d' e' g') := q
      have hj : b.block ≠ j := fun z => hnf (by subst z; rw [h.one.inj r.1 rij]; exact hi)
      rw [Array.getElem?_modify, if_neg hj] at q
      exact h.fro rij hi d' e' g' q
    · show C.G ≤ (w.heap.modify a.block _).size
      rw [Array.size_modify]; exact h.gw
    · show C.G ≤ (W.heap.modify b.block _).size
      rw [Array.size_modify]; exact h.gW
theorem did_set {a b : Addr} (r : AR ρ a b) (hn : ¬ C.Fz a.block) (v : Value) (es : Array Event) (l : Array Event) (hl : ∀ e ∈ l, EvOk C ρ e) : Did C ρ ρ W (W.setCell b v) es (es ++ l) := by
  refine ⟨Ext.refl _, fun _ _ h => .inl h, ?_, fun j hj q => ?_, rfl, rfl, Nat.le_refl _, l, rfl, hl⟩
  · show W.heap.size ≤ (W.heap.modify b.block _).size
    simp
  · show (W.heap.modify b.block _)[j]? = _
    rw [Array.getElem?_modify, if_neg]
    rintro rfl
    exact hn (q _ r.1)
theorem VR.cellish {Fn : FnR} {x y : Value} (h : VR Fn ρ x y) : ((∃ c, x = .agg c) ∨ ∃ c, x = .tuple c) ∨ (((∀ c, x ≠ .agg c) ∧ ∀ c, x ≠ .tuple c) ∧ (∀ c, y ≠ .agg c) ∧ ∀ c, y ≠ .tuple c) := by
  cases h <;> first | exact .inl (.inl ⟨_, rfl⟩) | exact .inl (.inr ⟨_, rfl⟩) | exact .inr ⟨⟨fun c q => (by cases q), fun c q => (by cases q)⟩, fun c q => (by cases q), fun c q => (by cases q)⟩
theorem runT_store {a : Addr} {v : Value} {m : Mode} {α : Type} {k : Sem α} (P : Program) (w : World) (es : Array Event) (h1 : ∀ c, v ≠ .agg c) (h2 : ∀ c, v ≠ .tuple c) :
    (Sem.store m a v k).runT P w es = (match w.cell? a with
      | some _ => if w.frozen? a then (.halt (.unsupported (.unsafePointer "a write to bytes that a string shares")) w, es) else k.runT P (w.setCell a v) (es.push ⟨.cell a, true, m == .atomic⟩)
      | none => match w.farStore P a v (m == .atomic) with
        | .ok (w, touched) => k.runT P w (es ++ touched.toArray.map (⟨.cell ·, true, m == .atomic⟩))
        | .error h => (.halt h w, es)) := by
  cases v <;> first | rfl | exact absurd rfl (h1 _) | exact absurd rfl (h2 _)
theorem Sim.store {a b : Addr} (r : AR ρ a b) {v v' : Value} (hv : VR C.Fn ρ v v') : Sim C (fun _ _ _ => True) ρ (Go.store a v) (Go.store b v') := by
  intro w W hw
  unfold Go.store
  rcases hv.cellish with (⟨c, rfl⟩ | ⟨c, rfl⟩) | ⟨⟨m1, m2⟩, n1, n2⟩
  · exact ⟨fun es g w1 es1 hr => (by cases hr; trivial), fun es es' x w1 es1 hr => by cases hr⟩
  · exact ⟨fun es g w1 es1 hr => (by cases hr; trivial), fun es es' x w1 es1 hr => by cases hr⟩
  obtain ⟨s, hs⟩ := hw.far_store r v (Mode.plain == Mode.atomic)
  refine ⟨fun es g w1 es1 hr => ?_, fun es es' x w1 es1 hr => ?_⟩
  · rw [runT_store _ _ _ m1 m2] at hr
    cases hc : w.cell? a with
    | none =>
      rw [hc] at hr
      simp only at hr
      rw [hs] at hr
      cases hr; trivial
    | some z =>
      rw [hc] at hr
      simp only at hr
      split at hr
      · cases hr; trivial
      · cases hr
  · rw [runT_store _ _ _ m1 m2] at hr
    rw [runT_store _ _ _ n1 n2]
    cases hc : w.cell? a with
    | none =>
      rw [hc] at hr
      simp only at hr
      rw [hs] at hr
      cases hr
    | some z =>
      rw [hc] at hr
      simp only at hr
      obtain ⟨z', hz', _⟩ := hw.cell r hc
      rw [hz']
      simp only
      by_cases hf : w.frozen? a = true
      · rw [if_pos hf] at hr; cases hr
      · rw [if_neg hf] at hr
        obtain ⟨hw', hn, hfb⟩ := hw.set r hv z hc (by simpa using hf)
        rw [hfb]
        obtain ⟨h1, h2⟩ := Prod.mk.inj hr
        cases h1
        refine ⟨ρ, (), W.setCell b v', _, rfl, trivial, hw', ?_⟩
        rw [Array.push_eq_append]
        refine did_set r hn v' es' _ fun e he => ?_
        simp at he
        subst he
        exact ⟨rfl, a.block, r.1, fun _ => hn⟩
def Obj.clean (o : Obj) : Prop := ∀ c e f, o = .cells c e f → f = (0, 0)
theorem WR.push (h : WR C ρ w W) {o o' : Obj} (ho : OR C.Fn ρ o o') (hc : Obj.clean o) : WR C (ρ.and w.heap.size W.heap.size) { w with heap := w.heap.push o } { W with heap := W.heap.push o' } := by
  have ex : Ext ρ (ρ.and w.heap.size W.heap.size) := fun a b r => .inl r
  refine ⟨⟨?_, ?_⟩, ?_, h.tape, h.drawn, fun a ha => ?_, ?_, ?_, ?_, ?_, ?_⟩
  · rintro a b c (r | ⟨rfl, rfl⟩) (s | ⟨e, rfl⟩)
    · exact h.one.fn r s
    · exact absurd (h.lt r).1 (by omega)
    · exact absurd (h.lt s).1 (by omega)
    · rfl
  · rintro a b c (r | ⟨rfl, rfl⟩) (s | ⟨rfl, e⟩)
    · exact h.one.inj r s
    · exact absurd (h.lt r).2 (by omega)
    · exact absurd (h.lt s).2 (by omega)
    · rfl
  · rintro a b (r | ⟨rfl, rfl⟩)
    · obtain ⟨x, y, h1, h2, h3⟩ := h.obj r
      have := h.lt r
      exact ⟨x, y, by rw [Array.getElem?_push, if_neg (by omega)]; exact h1, by rw [Array.getElem?_push, if_neg (by omega)]; exact h2, h3.mono ex⟩
    · exact ⟨o, o', by simp, by simp, ho.mono ex⟩
  · obtain ⟨c, e, f, q1, q2⟩ := h.fz a ha
    have := (Array.getElem?_eq_some_iff.1 q1).1
    exact ⟨c, e, f, by rw [Array.getElem?_push, if_neg (by omega)]; exact q1, q2⟩
  · rintro a b (r | ⟨rfl, rfl⟩) c e f q
    · have := h.lt r
      rw [Array.getElem?_push, if_neg (by omega)] at q
      exact h.fr r c e f q
    · simp at q
      exact .inl (hc c e f q)
  · rintro a b (r | ⟨rfl, rfl⟩) ha d e g q
    · have := h.lt r
      rw [Array.getElem?_push, if_neg (by omega)] at q
      exact h.fro r ha d e g q
    · obtain ⟨c, e', f, q1, _⟩ := h.fz _ ha
      have := (Array.getElem?_eq_some_iff.1 q1).1
      omega
  · rintro a b (r | ⟨rfl, rfl⟩) q
    · exact h.low r q
    · have := h.gw
      have := h.gW
      omega
  · show C.G ≤ (w.heap.push o).size
    have := h.gw
    simp; omega
  · show C.G ≤ (W.heap.push o').size
    have := h.gW
    simp; omega
theorem Sim.newObj {o o' : Obj} (ho : OR C.Fn ρ o o') (hc : Obj.clean o) : Sim C (fun ρ a b => ρ a b ∧ ¬ C.Fn.ro a) ρ (Go.newObj o) (Go.newObj o') := by
  intro w W hw
  refine ⟨fun es g w1 es1 hr => (by cases hr), fun es es' x w1 es1 hr => ?_⟩
  obtain ⟨h1, h2⟩ := Prod.mk.inj hr
  cases h1
  refine ⟨_, W.heap.size, { W with heap := W.heap.push o' }, es', rfl, ⟨.inr ⟨rfl, rfl⟩, fun q => ?_⟩, hw.push ho hc, fun a b r => .inl r, ?_, by simp, fun b hb _ => ?_, rfl, rfl, Nat.le_refl _, #[], by simp, fun e h => by simp at h⟩
  · obtain ⟨c, e, f, q1, _⟩ := hw.fz _ (C.rof _ q).1
    have := (Array.getElem?_eq_some_iff.1 q1).1
    omega
  · rintro a b (r | ⟨_, rfl⟩)
    · exact .inl r
    · exact .inr (Nat.le_refl _)
  · show (W.heap.push o')[b]? = _
    rw [Array.getElem?_push, if_neg (by omega)]
theorem Sim.getObj {r s : Nat} (h : ρ r s) : Sim C (fun ρ => OR C.Fn ρ) ρ (Go.getObj r) (Go.getObj s) := by
  intro w W hw
  refine ⟨fun es g w1 es1 hr => ?_, fun es es' x w1 es1 hr => ?_⟩
  · obtain ⟨o, o', h1, h2, ho⟩ := hw.obj h
    unfold Go.getObj Sem.runT at hr
    rw [h1] at hr
    cases ho <;> cases hr
    trivial
  · obtain ⟨o, o', h1, h2, ho⟩ := hw.obj h
    unfold Go.getObj at hr ⊢
    unfold Sem.runT at hr ⊢
    rw [h1] at hr
    rw [h2]
    cases ho with
    | cells e hc hf => cases hr
    | map hm n =>
      obtain ⟨q1, q2⟩ := Prod.mk.inj hr
      cases q1
      refine ⟨ρ, _, W, _, rfl, .map hm n, hw, { Did.refl C ρ W es' with evs := ⟨#[⟨.obj s, false, false⟩], by simp [Obj.isChan], fun e he => ?_⟩ }⟩
      simp at he; subst he
      exact ⟨rfl, r, h, fun q => by cases q⟩
    | iter hm n t k =>
      obtain ⟨q1, q2⟩ := Prod.mk.inj hr
      cases q1
      refine ⟨ρ, _, W, _, rfl, .iter hm n t k, hw, { Did.refl C ρ W es' with evs := ⟨#[⟨.obj s, false, false⟩], by simp [Obj.isChan], fun e he => ?_⟩ }⟩
      simp at he; subst he
      exact ⟨rfl, r, h, fun q => by cases q⟩
    | number hm hno l =>
      obtain ⟨q1, q2⟩ := Prod.mk.inj hr
      cases q1
      refine ⟨ρ, _, W, _, rfl, .number hm hno l, hw, { Did.refl C ρ W es' with evs := ⟨#[⟨.obj s, false, false⟩], by simp [Obj.isChan], fun e he => ?_⟩ }⟩
      simp at he; subst he
      exact ⟨rfl, r, h, fun q => by cases q⟩
theorem OR.chan {Fn : FnR} {x y : Obj} (h : OR Fn ρ x y) : x.isChan = false ∧ y.isChan = false := by cases h <;> exact ⟨rfl, rfl⟩
theorem Sim.setObj {r s : Nat} (h : ρ r s) {x x' : Obj} (hx : OR C.Fn ρ x x') (hc : Obj.clean x) : Sim C (fun _ _ _ => True) ρ (Go.setObj r x) (Go.setObj s x') := by
  intro w W hw
  refine ⟨fun es g w1 es1 hr => ?_, fun es es' _ w1 es1 hr => ?_⟩
  · obtain ⟨o, o', h1, h2, ho⟩ := hw.obj h
    unfold Go.setObj Sem.runT at hr
    rw [h1] at hr
    cases ho <;> cases hr
    trivial
  · obtain ⟨o, o', h1, h2, ho⟩ := hw.obj h
    have lt := hw.lt h
    unfold Go.setObj at hr ⊢
    unfold Sem.runT at hr ⊢
    rw [h1] at hr
    rw [h2]
    have key : ¬ C.Fz r → (∀ c e f, o' ≠ .cells c e f) → WR C ρ { w with heap := w.heap.setIfInBounds r x } { W with heap := W.heap.setIfInBounds s x' } ∧ Did C ρ ρ W { W with heap := W.heap.setIfInBounds s x' } es' (es'.push ⟨.obj s, true, false⟩) := by
      intro hn _
      refine ⟨⟨hw.one, fun {i j} rij => ?_, hw.tape, hw.drawn, fun i hi => ?_, fun {i j} rij c e f q => ?_, fun {i j} rij hi d e g q => ?_, hw.low, by simpa using hw.gw, by simpa using hw.gW⟩, ⟨Ext.refl _, fun _ _ h => .inl h, by simp, fun j hj q => ?_, rfl, rfl, Nat.le_refl _, #[⟨.obj s, true, false⟩], by simp, fun e he => ?_⟩⟩
      · by_cases hi : i = r
        · have hj : j = s := by subst hi; exact hw.one.fn rij h
          subst hi; subst hj
          exact ⟨x, x', by simp [lt.1], by simp [lt.2], hx⟩
        · have hj : j ≠ s := fun q => hi (by subst q; exact hw.one.inj rij h)
          obtain ⟨o, o', g1, g2, go⟩ := hw.obj rij
          refine ⟨o, o', ?_, ?_, go⟩
          · show (w.heap.setIfInBounds r x)[i]? = _
            rw [Array.getElem?_setIfInBounds, if_neg (fun q => hi q.symm)]; exact g1
          · show (W.heap.setIfInBounds s x')[j]? = _
            rw [Array.getElem?_setIfInBounds, if_neg (fun q => hj q.symm)]; exact g2
      · obtain ⟨c', e', f', q1, q2⟩ := hw.fz _ hi
        refine ⟨c', e', f', ?_, q2⟩
        show (w.heap.setIfInBounds r x)[i]? = _
        rw [Array.getElem?_setIfInBounds, if_neg (fun q : r = i => hn (q ▸ hi))]; exact q1
      · have q : (w.heap.setIfInBounds r x)[i]? = some (.cells c e f) := q
        rw [Array.getElem?_setIfInBounds] at q
        by_cases hi : r = i
        · rw [if_pos hi, if_pos lt.1] at q
          exact .inl (hc c e f (Option.some.inj q))
        · rw [if_neg hi] at q
          exact hw.fr rij c e f q
      · have q : (W.heap.setIfInBounds s x')[j]? = some (.cells d e g) := q
        have hj : s ≠ j := fun z => hn (by subst z; rw [hw.one.inj h rij]; exact hi)
        rw [Array.getElem?_setIfInBounds, if_neg hj] at q
        exact hw.fro rij hi d e g q
      · show (W.heap.setIfInBounds s x')[j]? = _
        rw [Array.getElem?_setIfInBounds, if_neg]
        rintro rfl
        exact hn (q _ h)
      · simp at he; subst he
        exact ⟨rfl, r, h, fun _ => hn⟩
    have nf : (∀ c e f, o ≠ .cells c e f) → ¬ C.Fz r := by
      intro q z
      obtain ⟨c, e, f, q1, _⟩ := hw.fz _ z
      rw [h1] at q1
      exact q _ _ _ (Option.some.inj q1)
    cases ho with
    | cells e hc hf => cases hr
    | map hm n =>
      obtain ⟨q1, q2⟩ := Prod.mk.inj hr
      cases q1
      obtain ⟨k1, k2⟩ := key (nf fun c e f q => by cases q) (fun c e f q => by cases q)
      refine ⟨ρ, (), _, _, rfl, trivial, k1, ?_⟩
      rw [hx.chan.2]; exact k2
    | iter hm n t k =>
      obtain ⟨q1, q2⟩ := Prod.mk.inj hr
      cases q1
      obtain ⟨k1, k2⟩ := key (nf fun c e f q => by cases q) (fun c e f q => by cases q)
      refine ⟨ρ, (), _, _, rfl, trivial, k1, ?_⟩
      rw [hx.chan.2]; exact k2
    | number hm hno l =>
      obtain ⟨q1, q2⟩ := Prod.mk.inj hr
      cases q1
      obtain ⟨k1, k2⟩ := key (nf fun c e f q => by cases q) (fun c e f q => by cases q)
      refine ⟨ρ, (), _, _, rfl, trivial, k1, ?_⟩
      rw [hx.chan.2]; exact k2
theorem Sim.choose (q : Question) : Sim C (fun _ a b => b = a) ρ (Go.choose q) (Go.choose q) := by
  intro w W hw
  refine ⟨fun es g w1 es1 hr => (by unfold Go.choose Sem.runT at hr; split at hr <;> cases hr), fun es es' x w1 es1 hr => ?_⟩
  unfold Go.choose at hr ⊢
  unfold Sem.runT at hr ⊢
  by_cases hq : q.forced = true
  · rw [if_pos hq] at hr ⊢
    obtain ⟨h1, h2⟩ := Prod.mk.inj hr
    cases h1
    exact ⟨ρ, 0, W, es', rfl, rfl, hw, Did.refl _ _ _ _⟩
  · rw [if_neg hq] at hr ⊢
    obtain ⟨h1, h2⟩ := Prod.mk.inj hr
    cases h1
    refine ⟨ρ, _, { W with drawn := W.drawn + 1 }, es', rfl, by rw [hw.tape, hw.drawn], ⟨hw.one, hw.obj, hw.tape, by show W.drawn + 1 = w.drawn + 1; rw [hw.drawn], hw.fz, hw.fr, hw.fro, hw.low, hw.gw, hw.gW⟩, { Did.refl C ρ W es' with drawn := Nat.le_succ _ }⟩
theorem Sim.program : Sim C (fun _ a b => a = C.P ∧ b = C.P) ρ Go.program Go.program := by
  intro w W hw
  refine ⟨fun es g w1 es1 hr => (by cases hr), fun es es' x w1 es1 hr => ?_⟩
  obtain ⟨h1, h2⟩ := Prod.mk.inj hr
  cases h1
  exact ⟨ρ, _, W, es', rfl, ⟨rfl, rfl⟩, hw, Did.refl _ _ _ _⟩
theorem Sim.shape {r s : Nat} (h : ρ r s) : Sim C (fun _ a b => b = a) ρ (Go.shape r) (Go.shape s) := by
  intro w W hw
  refine ⟨fun es g w1 es1 hr => (by cases hr), fun es es' x w1 es1 hr => ?_⟩
  obtain ⟨q1, q2⟩ := Prod.mk.inj hr
  cases q1
  refine ⟨ρ, _, W, es', rfl, ?_, hw, Did.refl _ _ _ _⟩
  obtain ⟨o, o', h1, h2, ho⟩ := hw.obj h
  unfold World.shape?
  rw [h1, h2]
  cases ho with
  | cells e hc hf => simp only [hc.1]
  | map hm n => rfl
  | iter hm n t k => rfl
  | number hm hno l => rfl
theorem WR.frozen_is (hw : WR C ρ w W) {a b : Addr} (r : AR ρ a b) : (w.frozen? a = true ↔ C.Fz a.block ∧ a.off < C.fzn a.block) ∧ (W.frozen? b = true → C.Fz a.block ∧ (C.self = true → a.off < C.fzn a.block) ∧ (C.self = false → C.Fn.ro a.block)) := by
  obtain ⟨o, o', h1, h2, ho⟩ := hw.obj r.1
  have nfz : (∀ c e f, o ≠ .cells c e f) → ¬ C.Fz a.block := fun q z => by
    obtain ⟨c, e, f, q1, _⟩ := hw.fz _ z
    rw [h1] at q1
    exact q _ _ _ (Option.some.inj q1)
  unfold World.frozen?
  rw [h1, h2]
  cases ho with
  | @cells c d e f g hc hf =>
    simp only
    rw [r.2.1]
    rcases hw.fr r.1 c e f h1 with rfl | ⟨z1, z3, z4⟩
    · have nz : ¬ (C.Fz a.block ∧ a.off < C.fzn a.block) := fun z => by
        obtain ⟨c', e', f', q1, q2, q3⟩ := hw.fz _ z.1
        rw [h1] at q1
        obtain ⟨rfl, rfl, rfl⟩ := Obj.cells.inj (Option.some.inj q1)
        by_cases hz : 0 < c.size
        · have := q2 0 hz; omega
        · have := z.2; omega
      rw [hf rfl]
      exact ⟨⟨fun q => (by simp at q), fun q => absurd q nz⟩, fun q => (by simp at q)⟩
    · refine ⟨?_, fun q => ?_⟩
      · obtain ⟨c', e', f', q1, q2, q3⟩ := hw.fz _ z1
        rw [h1] at q1
        obtain ⟨rfl, rfl, rfl⟩ := Obj.cells.inj (Option.some.inj q1)
        rcases z4 with rfl | rfl
        · simp only [Nat.zero_le, decide_true, Bool.true_and, decide_eq_true_eq, z3]
          exact ⟨fun q => ⟨z1, q⟩, fun q => q.2⟩
        · refine ⟨fun q => ?_, fun q => ?_⟩
          · simp only [Bool.and_eq_true, decide_eq_true_eq] at q
            omega
          · have := q2 0 (by omega)
            omega
      · have k := hw.fro r.1 z1 d e g h2
        refine ⟨z1, fun s => ?_, fun s => ?_⟩
        · rcases k.1 s with rfl | rfl
          · simpa using q
          · simp only [Bool.and_eq_true, decide_eq_true_eq] at q
            omega
        · rcases k.2 s with rfl | z
          · simp at q
          · exact z
  | map hm n => exact ⟨⟨fun q => (by cases q), fun q => absurd q.1 (nfz fun _ _ _ z => (by cases z))⟩, fun q => (by cases q)⟩
  | iter hm n t k => exact ⟨⟨fun q => (by cases q), fun q => absurd q.1 (nfz fun _ _ _ z => (by cases z))⟩, fun q => (by cases q)⟩
  | number hm hno l => exact ⟨⟨fun q => (by cases q), fun q => absurd q.1 (nfz fun _ _ _ z => (by cases z))⟩, fun q => (by cases q)⟩
theorem Sim.frozen {a b : Addr} (r : AR ρ a b) : Sim C (fun _ x y => (x = true ↔ C.Fz a.block ∧ a.off < C.fzn a.block) ∧ (y = true → C.Fz a.block ∧ (C.self = true → a.off < C.fzn a.block) ∧ (C.self = false → C.Fn.ro a.block))) ρ (Go.frozen a) (Go.frozen b) := by
  intro w W hw
  refine ⟨fun es g w1 es1 hr => (by cases hr), fun es es' x w1 es1 hr => ?_⟩
  obtain ⟨q1, q2⟩ := Prod.mk.inj hr
  cases q1
  exact ⟨ρ, _, W, es', rfl, hw.frozen_is r, hw, Did.refl _ _ _ _⟩
theorem Sim.noRoom : Sim C (fun _ _ _ => True) ρ (Go.mark .noRoom) (Go.mark .noRoom) := by
  intro w W hw
  refine ⟨fun es g w1 es1 hr => (by cases hr), fun es es' x w1 es1 hr => ?_⟩
  obtain ⟨h1, h2⟩ := Prod.mk.inj hr
  cases h1
  refine ⟨ρ, (), W, _, rfl, trivial, hw, { Did.refl C ρ W es' with evs := ⟨#[⟨.mark .noRoom, false, true⟩], by simp, fun e he => ?_⟩ }⟩
  simp at he; subst he
  trivial
theorem Sim.markExt (f : FuncId) : Sim C (fun _ _ _ => True) ρ (Go.mark (.extern f)) (Go.mark (.extern f)) := by
  intro w W hw
  refine ⟨fun es g w1 es1 hr => (by cases hr), fun es es' x w1 es1 hr => ?_⟩
  obtain ⟨h1, h2⟩ := Prod.mk.inj hr
  cases h1
  refine ⟨ρ, (), W, _, rfl, trivial, hw, { Did.refl C ρ W es' with evs := ⟨#[⟨.mark (.extern f), false, true⟩], by simp, fun e he => ?_⟩ }⟩
  simp at he; subst he
  trivial
end mem
end Go.Proofs.YtmbfdhekplnoaaaDoor

namespace Go.Proofs.YtmbfdhekplnoaaaDoor
open Go

section konst
variable {C : Ctx} {ρ : Brel} {α β γ δ : Type}
def Is (C : Ctx) (s : Sem α) (x : α) : Prop := ∀ w es, s.runT C.P w es = (.ok x w, es)
def Konst (C : Ctx) (s : Sem α) : Prop := (∃ x, Is C s x) ∨ Dead C s
theorem Is.pure (x : α) : Is C (Pure.pure x) x := fun _ _ => rfl
theorem Is.program : Is C Go.program C.P := fun _ _ => rfl
theorem Is.bind {s : Sem α} {k : α → Sem β} {x : α} {y : β} (h : Is C s x) (g : Is C (k x) y) : Is C (s >>= k) y := by
  intro w es
  show (s.bind k).runT C.P w es = _
  rw [Sem.runT_bind', h w es]
  exact g w es
theorem Is.eq {s : Sem α} {x y : α} (h : Is C s x) (g : Is C s y) : x = y := by
  have a := h default #[]
  rw [g default #[]] at a
  cases a; rfl
theorem Konst.bind {s : Sem α} {k : α → Sem β} (h : Konst C s) (g : ∀ x, Is C s x → Konst C (k x)) : Konst C (s >>= k) := by
  rcases h with ⟨x, hx⟩ | h
  · rcases g x hx with ⟨y, hy⟩ | d
    · exact .inl ⟨y, hx.bind hy⟩
    · refine .inr fun w es => ?_
      obtain ⟨g, w1, es1, e, hb⟩ := d w es
      refine ⟨g, w1, es1, ?_, hb⟩
      show (s.bind k).runT C.P w es = _
      rw [Sem.runT_bind', hx w es]
      exact e
  · exact .inr h.bind
theorem Konst.pure (x : α) : Konst C (Pure.pure x : Sem α) := .inl ⟨x, Is.pure x⟩
theorem Is.not_dead {s : Sem α} {x : α} (h : Is C s x) : ¬ Dead C s := fun d => by
  obtain ⟨g, w1, es1, e, _⟩ := d default #[]
  rw [h default #[]] at e
  cases e
theorem Konst.program : Konst C Go.program := .inl ⟨_, Is.program⟩
theorem Konst.stuck (s : String) : Konst C (Go.stuck s : Sem α) := .inr (Dead.halt _)
theorem Dead.stuck (s : String) : Dead C (Go.stuck s : Sem α) := Dead.halt _
theorem Dead.unsupported (u : Unsupported) (hb : Bad (.unsupported u) := by exact trivial) : Dead C (Go.unsupported u : Sem α) := Dead.halt _ hb
theorem Konst.unsupported (u : Unsupported) (hb : Bad (.unsupported u) := by exact trivial) : Konst C (Go.unsupported u : Sem α) := .inr (Dead.halt _ hb)
theorem Sim.bindK {B : Brel → γ → δ → Prop} {s : Sem α} {k : α → Sem γ} {k' : α → Sem δ} (h : Konst C s) (hk : ∀ x, Is C s x → Sim C B ρ (k x) (k' x)) : Sim C B ρ (s >>= k) (s >>= k') := by
  rcases h with ⟨x, hx⟩ | h
  · intro w W hw
    refine ⟨fun es g w1 es1 hr => ?_, fun es es' a w1 es1 hr => ?_⟩
    · have hr' : (s.bind k).runT C.P w es = (.halt g w1, es1) := hr
      rw [Sem.runT_bind', hx w es] at hr'
      exact (hk x hx w W hw).1 _ _ _ _ hr'
    · have hr' : (s.bind k).runT C.P w es = (.ok a w1, es1) := hr
      rw [Sem.runT_bind', hx w es] at hr'
      obtain ⟨ρ3, y, W3, es3', r3, xy, hw3, d3⟩ := (hk x hx w W hw).2 es es' a w1 es1 hr'
      refine ⟨ρ3, y, W3, es3', ?_, xy, hw3, d3⟩
      show (s.bind k').runT C.P W es' = _
      rw [Sem.runT_bind', hx W es']
      exact r3
  · exact Sim.dead h.bind
end konst

section types
variable {C : Ctx} {ρ : Brel}
theorem k_typeInfo (t : TypeId) : Konst C (typeInfo t) := Konst.program.bind fun x _ => by
  cases x.info? t with
  | some i => exact Konst.pure i
  | none => exact Konst.stuck _
theorem is_typeInfo {t : TypeId} {i : TypeInfo} (h : Is C (typeInfo t) i) : C.P.info? t = some i := by
  cases hi : C.P.info? t with
  | some j =>
    have : Is C (typeInfo t) j := Is.bind Is.program (by rw [hi]; exact Is.pure j)
    rw [h.eq this]
  | none =>
    have e := h default #[]
    have e' : (Go.program.bind _).runT C.P default #[] = (.ok i default, #[]) := e
    rw [Sem.runT_bind'] at e'
    simp only [Go.program, Sem.runT] at e'
    rw [hi] at e'
    cases e'
theorem k_underlying (t : TypeId) : Konst C (underlying t) := Konst.program.bind fun x _ => by
  cases x.underlying t with
  | some i => exact Konst.pure i
  | none => exact Konst.stuck _
theorem is_underlying {t : TypeId} {i : TypeDesc} (h : Is C (underlying t) i) : C.P.underlying t = some i := by
  cases hi : C.P.underlying t with
  | some j =>
    have : Is C (underlying t) j := Is.bind Is.program (by rw [hi]; exact Is.pure j)
    rw [h.eq this]
  | none =>
    have e := h default #[]
    have e' : (Go.program.bind _).runT C.P default #[] = (.ok i default, #[]) := e
    rw [Sem.runT_bind'] at e'
    simp only [Go.program, Sem.runT] at e'
    rw [hi] at e'
    cases e'
theorem k_zeroValue (t : TypeId) : Konst C (zeroValue t) := (k_typeInfo t).bind fun x _ => by
  cases hx : x.zero with
  | some v => exact Konst.pure v
  | none => exact Konst.unsupported _
theorem k_sizeOf (t : TypeId) : Konst C (sizeOf t) := (k_typeInfo t).bind fun _ _ => Konst.pure _
theorem k_isAgg (t : TypeId) : Konst C (isAgg t) := (k_underlying t).bind fun x _ => by
  cases x <;> exact Konst.pure _
def plainN : Nat → Value → Bool
  | _, .bool _ | _, .int _ _ | _, .string _ | _, .pointer none | _, .slice none _ _ | _, .map none | _, .chan none | _, .nilFunc | _, .nilIface => true
  | n + 1, .agg xs => xs.all (plainN n)
  | n + 1, .tuple xs => xs.all (plainN n)
  | n + 1, .iface _ x => plainN n x
  | _, _ => false
theorem plainN_vr {Fn : FnR} (n : Nat) : ∀ v : Value, plainN n v = true → VR Fn ρ v v := by
  induction n with
  | zero =>
    intro v h
    cases v with
    | bool b => exact .bool b
    | int k n => exact .int k n
    | float k n => cases h
    | complex k n m => cases h
    | string s => exact .string s
    | pointer a => cases a with
      | none => exact .nilPtr
      | some a => cases h
    | slice a n c => cases a with
      | none => exact .nilSlice n c
      | some a => cases h
    | map a => cases a with
      | none => exact .nilMap
      | some a => cases h
    | nilFunc => exact .nilFunc
    | nilIface => exact .nilIface
    | chan a => cases a with
      | none => exact .nilChan
      | some a => cases h
    | func _ _ _ => cases h
    | iface _ _ => cases h
    | agg _ => cases h
    | tuple _ => cases h
  | succ n ih =>
    intro v h
    cases v with
    | bool b => exact .bool b
    | int k n => exact .int k n
    | float k n => cases h
    | complex k n m => cases h
    | string s => exact .string s
    | pointer a => cases a with
      | none => exact .nilPtr
      | some a => cases h
    | slice a n c => cases a with
      | none => exact .nilSlice n c
      | some a => cases h
    | map a => cases a with
      | none => exact .nilMap
      | some a => cases h
    | nilFunc => exact .nilFunc
    | nilIface => exact .nilIface
    | chan a => cases a with
      | none => exact .nilChan
      | some a => cases h
    | func _ _ _ => cases h
    | iface t x => exact .iface t (ih x h)
    | agg xs =>
      have h' := Array.all_eq_true_iff_forall_mem.1 (show xs.all (plainN n) = true from h)
      refine .agg rfl fun i x y hx hy => ?_
      rw [hx] at hy; cases hy
      exact ih x (h' x (Array.mem_of_getElem? hx))
    | tuple xs =>
      have h' := Array.all_eq_true_iff_forall_mem.1 (show xs.all (plainN n) = true from h)
      refine .tuple rfl fun i x y hx hy => ?_
      rw [hx] at hy; cases hy
      exact ih x (h' x (Array.mem_of_getElem? hx))
structure Zeros (P : Program) : Prop where
  plain : ∀ t i v, t < P.types.size → P.info? t = some i → i.zero = some v → plainN 50 v = true
  elem : ∀ t el, t < P.types.size → P.underlying t = some (.slice el) → el < P.types.size
theorem is_zeroValue {t : TypeId} {v : Value} (h : Is C (zeroValue t) v) : ∃ i, C.P.info? t = some i ∧ i.zero = some v := by
  rcases k_typeInfo (C := C) t with ⟨i, hi⟩ | d
  · refine ⟨i, is_typeInfo hi, ?_⟩
    cases hz : i.zero with
    | some u =>
      have : Is C (zeroValue t) u := hi.bind (by rw [hz]; exact Is.pure u)
      rw [h.eq this]
    | none =>
      have e := h default #[]
      have e' : ((typeInfo t).bind _).runT C.P default #[] = (.ok v default, #[]) := e
      rw [Sem.runT_bind', hi default #[]] at e'
      simp only at e'
      rw [hz] at e'
      cases e'
  · have : Dead C (zeroValue t) := d.bind
    exact absurd this h.not_dead
theorem zero_vr (hZ : Zeros C.P) {t : TypeId} (ht : t < C.P.types.size) {v : Value} (h : Is C (zeroValue t) v) : VR C.Fn ρ v v := by
  obtain ⟨i, h1, h2⟩ := is_zeroValue h
  exact plainN_vr 50 v (hZ.plain t i v ht h1 h2)
end types

section rows
variable {C : Ctx} {ρ : Brel}
theorem AR.add {a b : Addr} (h : AR ρ a b) (n : Nat) : AR ρ (a.add n) (b.add n) := by
  unfold Addr.add
  split
  · exact h
  · exact ⟨h.1, by simp [h.2.1], rfl⟩
theorem Sim.loadCellsFrom {a b : Addr} (n : Nat) : ∀ {ρ : Brel} (_ : AR ρ a b) (i : Nat) {xs ys : Array Value} (_ : VRs C.Fn ρ xs ys), Sim C (fun ρ => VRs C.Fn ρ) ρ (Go.loadCellsFrom a i n xs) (Go.loadCellsFrom b i n ys) := by
  induction n with
  | zero => intro ρ r i xs ys h; exact Sim.pure h
  | succ n ih =>
    intro ρ r i xs ys h
    exact Sim.bind (Sim.load (r.add i)) fun ρ' x y e v => ih (r.mono e) (i + 1) ((h.mono e).push v)
theorem Sim.loadCells {a b : Addr} (r : AR ρ a b) (n : Nat) : Sim C (fun ρ => VRs C.Fn ρ) ρ (Go.loadCells a n) (Go.loadCells b n) := Sim.loadCellsFrom n r 0 VRs.nil
def VL (Fn : FnR) (ρ : Brel) : List Value → List Value → Prop
  | [], [] => True
  | x :: xs, y :: ys => VR Fn ρ x y ∧ VL Fn ρ xs ys
  | _, _ => False
theorem VL.mono {Fn : FnR} {ρ ρ' : Brel} (e : Ext ρ ρ') : ∀ {xs ys : List Value}, VL Fn ρ xs ys → VL Fn ρ' xs ys
  | [], [], _ => trivial
  | _ :: _, _ :: _, h => ⟨h.1.mono e, VL.mono e h.2⟩
theorem VL.of {Fn : FnR} : ∀ (xs ys : List Value), xs.length = ys.length → (∀ (i : Nat) (x y : Value), xs[i]? = some x → ys[i]? = some y → VR Fn ρ x y) → VL Fn ρ xs ys
  | [], [], _, _ => trivial
  | x :: xs, y :: ys, h, k => ⟨k 0 x y rfl rfl, VL.of xs ys (by simpa using h) fun i a b ha hb => k (i + 1) a b (by simpa using ha) (by simpa using hb)⟩
  | [], _ :: _, h, _ => by simp at h
  | _ :: _, [], h, _ => by simp at h
theorem VRs.list {Fn : FnR} {xs ys : Array Value} (h : VRs Fn ρ xs ys) : VL Fn ρ xs.toList ys.toList :=
  VL.of _ _ (by simpa using h.1) fun i x y hx hy => h.2 i x y (by simpa using hx) (by simpa using hy)
theorem Sim.storeCells {a b : Addr} : ∀ {ρ : Brel} (xs ys : List Value) (_ : AR ρ a b) (i : Nat) (_ : VL C.Fn ρ xs ys), Sim C (fun _ _ _ => True) ρ (Go.storeCells a xs i) (Go.storeCells b ys i)
  | _, [], [], _, _, _ => Sim.pure trivial
  | _, _ :: xs, _ :: ys, r, i, h => Sim.bind (Sim.store (r.add i) h.1) fun _ _ _ e _ => Sim.storeCells xs ys (r.mono e) (i + 1) (h.2.mono e)
  | _, [], _ :: _, _, _, h => h.elim
  | _, _ :: _, [], _, _, h => h.elim
theorem Sim.loadVar (t : TypeId) {a b : Addr} (r : AR ρ a b) : Sim C (fun ρ => VR C.Fn ρ) ρ (Go.loadVar t a) (Go.loadVar t b) := by
  refine Sim.bindK (k_isAgg t) fun x _ => ?_
  cases x
  · exact Sim.load r
  · exact Sim.bindK (k_sizeOf t) fun n _ => Sim.bind (Sim.loadCells r n) fun _ _ _ _ h => Sim.pure (VR.ag h)
theorem Sim.storeVar (t : TypeId) {a b : Addr} (r : AR ρ a b) {v v' : Value} (h : VR C.Fn ρ v v') : Sim C (fun _ _ _ => True) ρ (Go.storeVar t a v) (Go.storeVar t b v') := by
  refine Sim.bindK (k_sizeOf t) fun n _ => ?_
  have hc := h.cells
  rw [← hc.1]
  by_cases e : v.cells.size ≠ n
  · rw [if_pos e, if_pos e]; exact Sim.dead (by first | exact Dead.stuck _ | exact Dead.bind (Dead.stuck _))
  · rw [if_neg e, if_neg e]
    exact Sim.storeCells _ _ r 0 hc.list
theorem Sim.newRow (t : TypeId) {xs ys : Array Value} (h : VRs C.Fn ρ xs ys) : Sim C (AN C.Fn) ρ (Go.newRow t xs) (Go.newRow t ys) :=
  Sim.bind (Sim.newObj (.cells t h id) fun c e f q => by cases q; rfl) fun _ _ _ _ r => Sim.pure ⟨⟨r.1, rfl, rfl⟩, r.2⟩
theorem Sim.newVar (t : TypeId) {x y : Value} (h : VR C.Fn ρ x y) : Sim C (AN C.Fn) ρ (Go.newVar t x) (Go.newVar t y) := Sim.newRow t h.cells
theorem Sim.part (t : TypeId) {xs ys : Array Value} (h : VRs C.Fn ρ xs ys) (off : Nat) : Sim C (fun ρ => VR C.Fn ρ) ρ (Go.part t xs off) (Go.part t ys off) := by
  refine Sim.bindK (k_isAgg t) fun x _ => ?_
  cases x
  · cases hx : xs[off]? with
    | none => exact Sim.dead (Dead.stuck _)
    | some v =>
      obtain ⟨v', h1, h2⟩ := h.at hx
      rw [h1]
      exact Sim.pure h2
  · exact Sim.bindK (k_sizeOf t) fun n _ => Sim.pure (VR.ag (h.extract _ _))
theorem fine_of_konst {α : Type} {s : Sem α} (h : Konst C s) (w : World) : Fine C s w := by
  intro es g w1 es1 hr
  rcases h with ⟨x, hx⟩ | d
  · rw [hx w es] at hr; cases hr
  · obtain ⟨g', w', es', e, hb⟩ := d w es
    rw [e] at hr; cases hr; exact hb
theorem fine_newVar (t : TypeId) (v : Value) (w : World) : Fine C (Go.newVar t v) w := fun es g w1 es1 hr => by cases hr
theorem fine_choose (q : Question) (w : World) : Fine C (Go.choose q) w := fun es g w1 es1 hr => by unfold Go.choose Sem.runT at hr; split at hr <;> cases hr
theorem k_elemOf (t : TypeId) : Konst C (elemOf t) := (k_underlying t).bind fun d _ => by cases d <;> first | exact Konst.pure _ | exact Konst.stuck _
theorem Dead.runtimePanic {α : Type} (e : RuntimeError) : Dead C (Go.runtimePanic e : Sem α) := by
  refine Dead.then (fine_of_konst Konst.program) fun p => ?_
  cases e <;> first
    | exact Dead.halt _
    | exact Dead.then (fine_of_konst (k_elemOf _)) fun _ => Dead.then (fine_newVar _ _) fun _ => Dead.halt _
theorem Dead.boundsPanic {α : Type} (k : IntKind) (x y : Int) (c : BoundsCode) : Dead C (Go.boundsPanic k x y c : Sem α) := by
  unfold Go.boundsPanic
  split
  · refine Dead.then (fun w es g w1 es1 hr => ?_) fun _ => Dead.runtimePanic _
    have hr' : ((Go.choose _).bind _).runT C.P w es = (.halt g w1, es1) := hr
    rw [Sem.runT_bind'] at hr'
    split at hr'
    · cases hr'
    · rename_i q; cases hr'; exact fine_choose _ _ _ _ _ _ q
  · exact Dead.then (fine_of_konst (Konst.pure _)) fun _ => Dead.runtimePanic _
theorem Sim.asIntOf {x y : Value} (h : VR C.Fn ρ x y) : Sim C (fun _ a b => b = a) ρ (Go.asIntOf x) (Go.asIntOf y) := by
  cases h with
  | int k n => exact Sim.pure rfl
  | _ => exact Sim.dead (Dead.halt _)
theorem Sim.asInt {x y : Value} (h : VR C.Fn ρ x y) : Sim C (fun _ a b => b = a) ρ (Go.asInt x) (Go.asInt y) :=
  Sim.bind (Sim.asIntOf h) fun _ _ _ _ e => Sim.pure (by rw [e])
theorem Sim.asBool {x y : Value} (h : VR C.Fn ρ x y) : Sim C (fun _ a b => b = a) ρ (Go.asBool x) (Go.asBool y) := by
  cases h with
  | bool b => exact Sim.pure rfl
  | _ => exact Sim.dead (Dead.halt _)
theorem Sim.asAgg {x y : Value} (h : VR C.Fn ρ x y) : Sim C (fun ρ => VRs C.Fn ρ) ρ (Go.asAgg x) (Go.asAgg y) := by
  cases h with
  | agg h1 h2 => exact Sim.pure ⟨h1, h2⟩
  | _ => exact Sim.dead (Dead.halt _)
theorem Sim.sureAddr {x y : Value} (h : VP C.Fn ρ x y) : Sim C AR ρ (Instr.sureAddr x) (Instr.sureAddr y) := by
  rcases h with h | ⟨a, b, rfl, rfl, h, _⟩
  · cases h with
    | ptr h hn => exact Sim.pure h
    | _ => exact Sim.dead (Dead.halt _)
  · exact Sim.pure h
theorem Sim.asAddr {x y : Value} (h : VR C.Fn ρ x y) : Sim C (AN C.Fn) ρ (Go.asAddr x) (Go.asAddr y) := by
  cases h with
  | ptr h hn => exact Sim.pure ⟨h, hn⟩
  | nilPtr => exact Sim.dead (Dead.runtimePanic .nilDeref)
  | _ => exact Sim.dead (Dead.halt _)
end rows
end Go.Proofs.YtmbfdhekplnoaaaDoor
