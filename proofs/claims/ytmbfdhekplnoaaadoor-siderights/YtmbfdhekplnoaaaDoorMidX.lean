/-
  A POOL OF WORKERS, WHOLE: one walks, the others leave; it makes two channels and a group, hires, hands out, takes in, closes, waits; then one walks, the others leave.
  The library's laws on single steps, for walks in company: what is held of the world is carried over what the others do.
  A lone run from the midst of a function: what its code does from there, as a run that returns; in company to its caller, or to the end.
-/
import Derived.Test.YtmbfdhekplnoaaaDoorAloneX
import Derived.Conc.WgWords
namespace Go.Proofs.YtmbfdhekplnoaaaDoor
open Go Go.Conc
open Go.ConcN (sumTo upd sumTo_upd upd_ne upd_same sumTo_congr sumTo_le)
open Go.ConcR (KK WgAt stA smA rd wr mk)

structure Pool where
  P : Program
  Sh : Nat → Prop
  cn : Nat
  cb : Nat
  M : Nat
  c : Nat
  R : Nat → Value → (Nat → Prop) → World → Prop
  num : Int → Value
  ty : TypeId
  Wg : Nat
  Anch : Stp
  After : Stp
section pool
variable (p : Pool)
def Pool.J : World → Prop := fun W => ∃ st sm, WgAt p.ty p.Wg W st sm
def Pool.base (N : Nat) (Q : Nat → Bool) (Sy : Nat → Prop) : Farm where
  P := p.P
  J := p.J
  Sh := p.Sh
  Sy := Sy
  cn := p.cn
  cb := p.cb
  M := p.M
  N := N
  R := p.R
  Done := fun _ _ _ => False
  Close := fun _ _ _ _ => False
  num := p.num
  Hold := fun W => WgAt p.ty p.Wg W ((p.c : Nat) * KK) 0
  Q := Q
  ga := stA p.Wg
def Pool.yard0 (N : Nat) (Q : Nat → Bool) (Sy : Nat → Prop) : Yard := { F := p.base N Q Sy, ty := p.ty, Wg := p.Wg, Anch := p.Anch, After := p.After }
def Pool.farm (N : Nat) (Q : Nat → Bool) (Sy : Nat → Prop) : Farm := { p.base N Q Sy with Done := YR0 (p.yard0 N Q Sy), Close := fun _ => YClose (p.yard0 N Q Sy) }
def Pool.yard (N : Nat) (Q : Nat → Bool) (Sy : Nat → Prop) : Yard := { F := p.farm N Q Sy, ty := p.ty, Wg := p.Wg, Anch := p.Anch, After := p.After }
structure Pool.Known : Prop where
  cnb : p.cn ≠ p.cb
  wn : p.Wg ≠ p.cn
  wb : p.Wg ≠ p.cb
  rst : ∀ i v X W W1, p.R i v X W → Rely X p.Sh W W1 → p.R i v X W1
  anch : ∀ N Q Sy O g W, p.Anch O g W → (p.yard N Q Sy).mn (YW1 (p.yard N Q Sy)) O g W
  aft : ∀ O g W, p.After O g W → g.status = .running
  few : p.c < 2147483647
  some : 0 < p.M → 0 < p.c
variable {p}
theorem Pool.Known.yard (K : p.Known) {N : Nat} {Q : Nat → Bool} {Sy : Nat → Prop} (hn : Sy p.cn) (hb : Sy p.cb) (hw : Sy p.Wg) (hc : (p.farm N Q Sy).crew = p.c) : (p.yard N Q Sy).Known where
  f :=
    { cnb := K.cnb
      syn := hn
      syb := hb
      jst := fun W W' h ⟨st, sm, q⟩ => ⟨st, sm, (h _ hw).trans q⟩
      jch := fun W c s s' tm hc _ ⟨st, sm, q⟩ => ⟨st, sm, (show (W.setChan c 0 #[] false s' s' tm).heap[p.Wg]? = W.heap[p.Wg]? from Array.getElem?_setIfInBounds_ne (hc.elim (fun e => e ▸ K.wn.symm) fun e => e ▸ K.wb.symm)).trans q⟩
      hst := fun W W' h q => (h p.Wg hw K.wn K.wb).trans q
      rst := K.rst }
  done := fun _ _ _ h => h
  close := fun _ _ _ _ h => h
  anch := K.anch N Q Sy
  aft := K.aft
  syw := hw
  ga := rfl
  wn := K.wn
  wb := K.wb
  few := by show (p.farm N Q Sy).crew < _; rw [hc]; exact K.few
  jg := fun W W' _ h _ => h
  jc := fun W s tm _ ⟨st, sm, q⟩ => ⟨st, sm, (show (W.setChan p.cn 0 #[] true s s tm).heap[p.Wg]? = W.heap[p.Wg]? from Array.getElem?_setIfInBounds_ne K.wn.symm).trans q⟩
theorem crew_is {N n0 c : Nat} (h0 : 1 ≤ n0) (hN : N + 1 = n0 + c) : (sumTo (N + 1) fun k => if k = 0 then 0 else if decide (1 ≤ k ∧ k < n0) then 0 else 1) = c := by
  rw [hN]
  clear hN
  induction c with
  | zero =>
    have : (sumTo (n0 + 0) fun k => if k = 0 then 0 else if decide (1 ≤ k ∧ k < n0) then 0 else 1) = sumTo (n0 + 0) fun _ => 0 := sumTo_congr fun k hk => by
      by_cases k0 : k = 0
      · rw [if_pos k0]
      · rw [if_neg k0, if_pos (by simp; omega)]
    rw [this]
    generalize n0 + 0 = m
    induction m with
    | zero => rfl
    | succ m ih => simp only [sumTo, ih]
  | succ c ih =>
    rw [show n0 + (c + 1) = (n0 + c) + 1 from rfl]
    simp only [sumTo]
    rw [ih, if_neg (by omega), if_neg (by simp)]
section run
variable {Sh Sy X : Nat → Prop} {gs : Array Goroutine} {W : World} {t : Trace} {Own : Nat → Nat → Prop} {q : Nat → Nat} {a : Goroutine} {sl : Option (Nat × Nat)}
theorem Owners.begin (h : Owners t (fun i => i = 0) W.heap.size Own Sh Sy) (hX : ∀ b, X b → Own 0 b) {cn cb wg : Nat} (hn : Own 0 cn) (hb : Own 0 cb) (hw : Own 0 wg) (xn : ¬ X cn) (xb : ¬ X cb) (xw : ¬ X wg) (cnb : cn ≠ cb) (wn : wg ≠ cn) (wb : wg ≠ cb) :
    Owners t (fun i => i = 0) W.heap.size (fun i b => Own i b ∧ ¬ X b ∧ b ≠ cn ∧ b ≠ cb ∧ b ≠ wg) (fun b => Sh b ∨ X b) (fun b => Sy b ∨ b = cn ∨ b = cb ∨ b = wg) := by
  have h1 := h.share X hX
  have h2 := h1.open_ cn 0 ⟨hn, xn⟩ fun j hj => hj
  have h3 := h2.open_ cb 0 ⟨⟨hb, xb⟩, cnb.symm⟩ fun j hj => hj
  have h4 := h3.open_ wg 0 ⟨⟨⟨hw, xw⟩, wn⟩, wb⟩ fun j hj => hj
  have e1 : (fun (j b : Nat) => (((Own j b ∧ ¬ X b) ∧ b ≠ cn) ∧ b ≠ cb) ∧ b ≠ wg) = fun i b => Own i b ∧ ¬ X b ∧ b ≠ cn ∧ b ≠ cb ∧ b ≠ wg := funext fun j => funext fun b => propext ⟨fun ⟨⟨⟨⟨a, b⟩, c⟩, d⟩, e⟩ => ⟨a, b, c, d, e⟩, fun ⟨a, b, c, d, e⟩ => ⟨⟨⟨⟨a, b⟩, c⟩, d⟩, e⟩⟩
  have e2 : (fun b => ((Sy b ∨ b = cn) ∨ b = cb) ∨ b = wg) = fun b => Sy b ∨ b = cn ∨ b = cb ∨ b = wg := funext fun b => propext ⟨fun z => z.elim (fun z => z.elim (fun z => z.elim .inl fun z => .inr (.inl z)) fun z => .inr (.inr (.inl z))) fun z => .inr (.inr (.inr z)), fun z => z.elim (fun z => .inl (.inl (.inl z))) fun z => z.elim (fun z => .inl (.inl (.inr z))) fun z => z.elim (fun z => .inl (.inr z)) .inr⟩
  rw [e1, e2] at h4
  exact h4
theorem Owners.fewer {A : Nat → Prop} {B : Nat} {Own' : Nat → Nat → Prop} (h : Owners t A B Own Sh Sy) (hO : ∀ i b, Own' i b → Own i b) : Owners t A B Own' Sh Sy :=
  { h with apart := fun i j b hi hj => h.apart i j b (hO i b hi) (hO j b hj), notSh := fun i b hi => h.notSh i b (hO i b hi), lt := fun i b hi => h.lt i b (hO i b hi), own := fun i b k a hi => h.own i b k a (hO i b hi), ownSy := fun i b hi => h.ownSy i b (hO i b hi) }
theorem deaf_none {n j : Nat} (hw : ∀ i g, t.g? i = some g → g < n) (hj : n ≤ j) : Deaf t j = 0 := by
  have key : ∀ i, t.deaf j i = 0 := by
    intro i
    induction i with
    | zero => rfl
    | succ i ih =>
      cases hx : t[i]? with
      | none => rw [Trace.deaf, hx]; exact ih
      | some op =>
        rw [deaf_succ hx, ih]
        have hg : op.g < n := hw i op.g (by simp only [Trace.g?, hx, Option.map_some])
        obtain ⟨g, fn, pos, act⟩ := op
        have hne : g ≠ j := by have : g < n := hg; omega
        unfold deafStep
        cases act with
        | mark m => cases m <;> simp [hne]
        | _ => rfl
  exact key _
theorem Owners.less {A A' : Nat → Prop} {B : Nat} {Sh' : Nat → Prop} (h : Owners t A B Own Sh' Sy) (hA : ∀ i, A' i → A i) (hS : ∀ b, Sh b → Sh' b) : Owners t A' B Own Sh Sy :=
  { h with notSh := fun i b hi q => h.notSh i b hi (hS b q), shlt := fun b q => h.shlt b (hS b q), sh := fun i b k a hi q => h.sh i b k a (hA i hi) (hS b q), shSy := fun b q => h.shSy b (hS b q), sy := fun b k a q ha hb => (h.sy b k a q ha hb).imp id fun z i hi => z i (hA i hi) }
theorem Pool.run (K : p.Known) {Post : Value → World → Prop} (hsh : p.Sh = fun b => Sh b ∨ X b) (hafter : p.After = Ends p.P Sh Post) (h : AloneAt p.P Sh gs W t Own Sy q a) (hX : ∀ b, X b → Own 0 b) (hn : Own 0 p.cn) (hb : Own 0 p.cb) (hw : Own 0 p.Wg) (xn : ¬ X p.cn) (xb : ¬ X p.cb) (xw : ¬ X p.Wg)
    (cn : ∃ s tm, W.heap[p.cn]? = some (.chan 0 #[] false s s tm)) (cb : ∃ s tm, W.heap[p.cb]? = some (.chan 0 #[] false s s tm)) (wg : WgAt p.ty p.Wg W 0 0)
    (hgo : ∀ N Q Sy, GoesJ p.P true p.J p.Sh (HNx (p.yard N Q Sy) p.c 0) (fun b => Own 0 b ∧ ¬ X b ∧ b ≠ p.cn ∧ b ≠ p.cb ∧ b ≠ p.Wg) a W) : EndsIn p.P (Go.Conc.Good p.P Post) (crowd gs W sl) t := by
  have hpos : 0 < gs.size := (Array.getElem?_eq_some_iff.1 h.zero).1
  obtain ⟨N, hN⟩ : ∃ N, N + 1 = gs.size + p.c := ⟨gs.size + p.c - 1, by omega⟩
  let Q : Nat → Bool := fun k => decide (1 ≤ k ∧ k < gs.size)
  let Sy' : Nat → Prop := fun b => Sy b ∨ b = p.cn ∨ b = p.cb ∨ b = p.Wg
  have hcrew : (p.farm N Q Sy').crew = p.c := crew_is hpos hN
  have KY := K.yard (N := N) (Q := Q) (Sy := Sy') (.inr (.inl rfl)) (.inr (.inr (.inl rfl))) (.inr (.inr (.inr rfl))) hcrew
  have hO1 : Owners t (fun i => i = 0) W.heap.size (fun i b => i < gs.size ∧ Own i b) Sh Sy := h.own.fewer fun i b z => z.2
  have e0 : (fun b => 0 < gs.size ∧ Own 0 b) = Own 0 := funext fun b => propext ⟨And.right, fun z => ⟨hpos, z⟩⟩
  obtain ⟨Own1, hOwn⟩ : ∃ Own1 : Nat → Nat → Prop, (fun i b => i < gs.size ∧ Own i b) = Own1 := ⟨_, rfl⟩
  rw [hOwn] at hO1
  have own0 : ∀ b, Own 0 b → Own1 0 b := fun b z => by rw [← hOwn]; exact ⟨hpos, z⟩
  have hO := hO1.begin (fun b z => own0 b (hX b z)) (own0 _ hn) (own0 _ hb) (own0 _ hw) xn xb xw K.cnb K.wn K.wb
  obtain ⟨T0, hT0⟩ := hgo N Q Sy'
  have e0' : (fun b => Own1 0 b ∧ ¬ X b ∧ b ≠ p.cn ∧ b ≠ p.cb ∧ b ≠ p.Wg) = fun b => Own 0 b ∧ ¬ X b ∧ b ≠ p.cn ∧ b ≠ p.cb ∧ b ≠ p.Wg := by rw [← hOwn]; exact congrArg (fun (F : Nat → Prop) b => F b ∧ ¬ X b ∧ b ≠ p.cn ∧ b ≠ p.cb ∧ b ≠ p.Wg) e0
  rw [← e0'] at hT0
  have Q0 : Q 0 = false := by simp [Q]
  have Qo : ∀ k, 1 ≤ k → k < gs.size → Q k = true := fun k h1 h2 => by simp [Q, h1, h2]
  have Qn : ∀ k, gs.size ≤ k → Q k = false := fun k hk => by simp [Q]; omega
  have eA : (fun i => i = 0) = fun k => k < gs.size ∧ Q k = false := funext fun k => propext ⟨fun e => by subst e; exact ⟨hpos, Q0⟩, fun ⟨z1, z2⟩ => by
    rcases Nat.eq_zero_or_pos k with e | e
    · exact e
    · rw [Qo k e z1] at z2; cases z2⟩
  have told : Told (stA p.Wg) gs.size (fun k => Q k = true) (fun _ => False) t := ⟨h.norel, fun _ z => z.elim, fun i g hg ho hc => by
    have : g ≠ 0 := fun e => by rw [e, Q0] at ho; cases ho
    exact h.over i g hg this hc, h.who⟩
  have J0 : p.J W := ⟨_, _, wg⟩
  have comes : Comes p.P (fun m t => ∃ gs W sl Own, m = crowd gs W sl ∧ YardOver (p.yard N Q Sy') gs W t Own) (crowd gs W sl) t := by
    have sz : ((0 : Nat) : Int) * KK = 0 := Int.zero_mul _
    have wg0 : WgAt p.ty p.Wg W (((0 : Nat) : Int) * KK) 0 := by rw [sz]; exact wg
    cases hc : p.c with
    | succ c =>
      rw [hc] at hT0 hN
      refine HireAt.done (Y := p.yard N Q Sy') KY (fun W => by rw [show (p.yard N Q Sy').F.crew = p.c from hcrew]; exact Iff.rfl) (κ := fun k => .quit (q k)) (τ := .dis 0 c) (T := fun k => if k = 0 then T0 else WT.chain (q k)) (Own := fun i b => Own1 i b ∧ ¬ X b ∧ b ≠ p.cn ∧ b ≠ p.cb ∧ b ≠ p.Wg) ?_
      exact
        { size := by show gs.size + c = N; omega
          pos := hpos
          own := by show Owners t (fun k => k < gs.size ∧ Q k = false) W.heap.size _ p.Sh Sy'; rw [← eA, hsh]; exact hO
          told := told
          deaf0 := h.hears
          deaf := fun k _ _ z => by cases z
          above := fun k hk => h.left.above k hk
          left := fun k n g k1 hk e hg => by cases e; exact h.left.old k g k1 hg
          cn := cn, cb := cb, j := J0
          group := wg0
          cnt := by show 0 + c + 1 = (p.farm N Q Sy').crew; rw [hcrew, hc]; omega
          who := fun k k1 hk => (Qo k k1 hk).symm
          q0 := Q0
          bare := fun k hk b z => by have := z.1; rw [← hOwn] at this; omega
          new := fun k hk _ => Qn k hk
          kind := fun k _ _ => .inl ⟨_, rfl⟩
          at_ := fun k k1 hk => by
            obtain ⟨g, hg⟩ : ∃ g, gs[k]? = some g := ⟨_, Array.getElem?_eq_getElem hk⟩
            refine ⟨g, hg, ?_⟩
            show (if k = 0 then T0 else WT.chain (q k)) = WT.chain (q k) ∧ _
            rw [if_neg (by omega)]
            exact ⟨rfl, _, h.left.old k g k1 hg⟩
          zero := ⟨a, h.zero, hT0⟩ }
    | zero =>
      have M0 : p.M = 0 := by
        rcases Nat.eq_zero_or_pos p.M with e | e
        · exact e
        · have := K.some e; omega
      rw [hc] at hT0 hN
      have eN : N + 1 = gs.size := by omega
      refine FarmAt.done (Y := p.yard N Q Sy') KY (fun W z => by rw [show (p.yard N Q Sy').F.crew = p.c from hcrew]; exact z) (κ := fun k => if k = 0 then .mwalk else .quit (q k)) (T := fun k => if k = 0 then T0 else WT.chain (q k)) (Own := fun i b => Own1 i b ∧ ¬ X b ∧ b ≠ p.cn ∧ b ≠ p.cb ∧ b ≠ p.Wg) (m := p.M + p.M) (next := 0) (ds := []) ?_
      have kk : ∀ k, 1 ≤ k → (if k = 0 then KTag.mwalk else .quit (q k)) = .quit (q k) := fun k hk => if_neg (by omega)
      exact
        { size := eN.symm
          own := by show Owners t (fun k => k < N + 1 ∧ Q k = false) W.heap.size _ p.Sh Sy'; rw [eN, ← eA, hsh]; exact hO
          told := by show Told (stA p.Wg) (N + 1) _ _ t; rw [eN]; exact told
          deaf := fun k hk z => by
            rcases Nat.eq_zero_or_pos k with e | e
            · rw [e]; exact h.hears
            · rw [kk k e] at z; cases z
          left := fun k n g hk e hg => by
            rcases Nat.eq_zero_or_pos k with z | z
            · rw [z, if_pos rfl] at e; cases e
            · rw [kk k z] at e; cases e; exact h.left.old k g z hg
          crew := fun z => by have : 0 < p.M := z; omega
          cn := cn, cb := cb, j := J0
          hold := by show WgAt p.ty p.Wg W ((p.c : Nat) * KK) 0; rw [hc]; exact wg0
          who := fun k hk => by
            rcases Nat.eq_zero_or_pos k with e | e
            · rw [e, if_pos rfl]; exact Q0.symm
            · rw [kk k e]; exact (Qo k e (by show k < gs.size; have : k < N + 1 := hk; omega)).symm
          nx := Nat.zero_le _, nd := List.nodup_nil, dlt := fun i hi => by cases hi
          m_is := by show p.M + p.M = (p.M - 0) + (p.M - 0); omega
          zero := .inl (if_pos rfl)
          oth := fun k hk => by rw [kk k hk]; exact ⟨fun z => (by cases z), fun z => (by cases z)⟩
          at_ := fun k hk => by
            have hk' : k < gs.size := by have : k < N + 1 := hk; omega
            rcases Nat.eq_zero_or_pos k with e | e
            · subst e
              rw [if_pos rfl]
              exact ⟨a, h.zero, hT0⟩
            · obtain ⟨g, hg⟩ : ∃ g, gs[k]? = some g := ⟨_, Array.getElem?_eq_getElem hk'⟩
              refine ⟨g, hg, ?_⟩
              rw [kk k e, if_neg (by omega)]
              exact ⟨rfl, _, h.left.old k g e hg⟩
          fuel := fun k k1 hk z => by rw [kk k k1] at z; cases z
          task := fun k i hk e => by
            rcases Nat.eq_zero_or_pos k with z | z
            · rw [z, if_pos rfl] at e; cases e
            · rw [kk k z] at e; cases e
          one := fun k k' i hk _ e => by
            rcases Nat.eq_zero_or_pos k with z | z
            · rw [z, if_pos rfl] at e; cases e
            · rw [kk k z] at e; cases e
          all := fun i hi => by omega
          idle := fun e => by rw [if_pos rfl] at e; cases e }
  refine comes.ends fun m t' ⟨gs', W', sl', Own', e, hov⟩ => ?_
  subst e
  obtain ⟨a', ha', _, haf⟩ := hov.after
  have haf' : Ends p.P Sh Post (Own' 0) a' W' := by
    have := haf W' (RelyJ.refl _ _ hov.j)
    have this : p.After (Own' 0) a' W' := this
    rw [hafter] at this
    exact this
  have q' : ∀ k, ∃ n, ∀ g, 1 ≤ k → gs'[k]? = some g → QuitsD p.P n (Deaf t' k) g := fun k => by
    by_cases hk : 1 ≤ k ∧ k < N + 1
    · obtain ⟨g, n, hg, hq⟩ := hov.left k hk.1 hk.2
      exact ⟨n, fun g' _ hg' => by rw [hg] at hg'; cases hg'; exact hq⟩
    · refine ⟨0, fun g' k1 hg' => ?_⟩
      have h1 := (Array.getElem?_eq_some_iff.1 hg').1
      have h2 : gs'.size = N + 1 := hov.size
      omega
  refine haf'.2 gs' t' sl' Own' Sy' (fun k => Classical.choose (q' k)) rfl
    { zero := ha'
      own := Owners.less (Sh' := p.Sh) hov.own (fun i hi => by subst hi; exact ⟨Nat.zero_lt_succ _, Q0⟩) fun b hb => by rw [hsh]; exact .inl hb
      left := ⟨fun i g hi hg => Classical.choose_spec (q' i) g hi hg, fun j hj => deaf_none hov.who (by rw [hov.size] at hj; exact hj)⟩
      hears := hov.deaf
      over := hov.over
      who := fun i g hg => by rw [hov.size]; exact hov.who i g hg
      norel := hov.norel }
end run
end pool
end Go.Proofs.YtmbfdhekplnoaaaDoor

namespace Go.Proofs.YtmbfdhekplnoaaaDoor
open Go Go.Conc

section k
variable {P : Program} {main : Bool} {Sh : Nat → Prop} {Stop : Stp} {O : Nat → Prop} {g : Goroutine} {w : World}
theorem walks_goes (hs : g.status = .running) (h : ∀ W1, Rely O Sh w W1 → (stepG P main g W1).goes fun g' w' es => ∃ O', Guar O O' Sh W1 w' es ∧ Walks P main Sh Stop O' g' w') : Walks P main Sh Stop O g w :=
  Walks.step' hs fun W1 hr => by
    have := h W1 hr
    cases hst : stepG P main g W1 with
    | go g' W' es => rw [hst, goes_go] at this; obtain ⟨O', h1, h2⟩ := this; exact ⟨O', g', W', es, rfl, h1, h2⟩
    | _ => rw [hst] at this; exact this.elim
theorem guar_none {es : Array Event} (h : ∀ e ∈ es, False) : Guar O O Sh w w es := by
  have : es = #[] := Array.eq_empty_iff_forall_not_mem.2 h
  rw [this]; exact Guar.refl _ _ _
theorem guar_reads {es : Array Event} (h : ∀ e ∈ es, ∃ a, e = ⟨.cell a, false, false⟩ ∧ (O a.block ∨ Sh a.block)) : Guar O O Sh w w es :=
  ⟨Nat.le_refl _, fun _ _ _ => rfl, fun _ h => h, fun _ h => .inl h, fun b h1 h2 => absurd h2 (Nat.not_lt.2 h1), rfl, rfl, rfl, fun e he => by
    obtain ⟨a, rfl, ho⟩ := h e he
    exact ⟨rfl, ho.imp id fun q => ⟨q, rfl⟩⟩⟩
theorem guar_alloc {o : Obj} {es : Array Event} (h : ∀ e ∈ es, ∃ a wr, e = ⟨.cell a, wr, false⟩ ∧ (O a.block ∨ a.block = w.heap.size)) : Guar O (fun b => O b ∨ b = w.heap.size) Sh w (w.alloc o) es := by
  have hsz : (w.alloc o).heap.size = w.heap.size + 1 := by simp
  refine ⟨by rw [hsz]; omega, fun b hb _ => ?_, fun _ q => .inl q, fun b q => q.imp id fun e => ?_, fun b h1 h2 => .inr ?_, rfl, rfl, rfl, fun e he => ?_⟩
  · show (w.heap.push o)[b]? = _
    rw [Array.getElem?_push_lt hb, Array.getElem?_eq_getElem hb]
  · rw [e, hsz]; omega
  · rw [hsz] at h2; omega
  · obtain ⟨a, wr, rfl, ho⟩ := h e he
    exact ⟨rfl, .inl ho⟩
theorem guar_set {a : Addr} {v : Value} {es : Array Event} (ho : O a.block) (h : ∀ e ∈ es, ∃ a wr, e = ⟨.cell a, wr, false⟩ ∧ O a.block) : Guar O O Sh w (w.setCell a v) es := by
  have hsz : (w.setCell a v).heap.size = w.heap.size := by simp [World.setCell]
  refine ⟨by rw [hsz]; exact Nat.le_refl _, fun b _ hb => RowKit.Below.heap_setCell _ _ _ _ (fun e => hb (e ▸ ho)), fun _ q => q, fun _ q => .inl q, fun b h1 h2 => absurd h2 (by rw [hsz]; exact Nat.not_lt.2 h1), rfl, rfl, rfl, fun e he => ?_⟩
  obtain ⟨a, wr, rfl, ho⟩ := h e he
  exact ⟨rfl, .inl ho⟩
theorem cell_rely {w w₁ : World} {a : Addr} {v : Value} (hr : Rely O Sh w w₁) (ho : O a.block ∨ Sh a.block) (h : w.cell? a = some v) : w₁.cell? a = some v := by
  unfold World.cell? at h ⊢
  cases hb : w.heap[a.block]? with
  | none => rw [hb] at h; cases h
  | some o => rw [hr.keep a.block (Array.getElem?_eq_some_iff.1 hb).1 ho, hb]; rw [hb] at h; exact h
theorem walks_enter {b : Frame} {a : Act} {k : List Item} {cs : List Frame} {ops : Array Oper} {i : Nat} {rest : List Nat} {o : Oper} {Post : (Nat → Prop) → Value → World → Prop} (ho : ops[i]? = some o) (hw : Region.wanted o (yielded ops a.tmps) = true) (hk : b.kind ≠ .early)
    (h : ∀ W1, Rely O Sh w W1 → ∃ f args, (execOp a.eval o).run P W1 = .ok (.enter f args) W1 ∧ (execOp a.eval o).events P W1 #[] = #[] ∧ CallW P main Sh Stop f args O W1 Post)
    (hp : ∀ O' v W', Post O' v W' → Walks P main Sh Stop O' (G (b.at (a.put ((ops[i]?).bind (·.dst)) v) (.inRegion ops rest :: k)) cs) W') : Walks P main Sh Stop O (G (b.at a (.inRegion ops (i :: rest) :: k)) cs) w :=
  Walks.step' rfl fun W1 hr => by
    obtain ⟨f, args, h1, h2, h3⟩ := h W1 hr
    have e := stepG_enter (P := P) (main := main) (cs := cs) (k := k) (rest := rest) ho hw hk h1
    rw [show listed P b.fn a o W1 = #[] from by unfold listed; rw [h2]; exact seen_none _ _] at e
    refine ⟨O, _, W1, #[], e, Guar.refl _ _ _, h3 _ _ fun O' v W' q => ?_⟩
    rw [Frame.finish_at]
    exact hp O' v W' q
theorem run_call_value {a : Act} {o : Oper} {x : Operand} {f : FuncId} {cap : Array Value} {g : Func} {args : Array Operand} {ats : Array TypeId} (hop : o.op = .call { callee := .value x, args, argTypes := ats }) (hx : a.eval x = .func (.func f) #[] cap)
    (hf : P.funcs[f]? = some g) (hname : (g.name == "runtime.NumGoroutine") = false) (hb : g.body.isNone = false) : (execOp a.eval o).run P w = .ok (.enter f (args.map a.eval ++ cap)) w ∧ (execOp a.eval o).events P w #[] = #[] := by
  have h1 : ¬ g.name = "runtime.NumGoroutine" := by simpa using hname
  have h2 : ¬ g.body = none := by cases hx : g.body <;> simp_all
  constructor
  · unfold execOp
    simp [hop, resolve, Deferred.ofValue, invoke, callFunc, hf, h1, h2, hx]
  · unfold execOp
    simp [hop, resolve, Deferred.ofValue, invoke, callFunc, hf, h1, h2, hx]
theorem walks_callv {b : Frame} {a : Act} {k : List Item} {cs : List Frame} {ops : Array Oper} {i : Nat} {rest : List Nat} {o : Oper} {x : Operand} {fv : Value} {args : Array Operand} {ats : Array TypeId} {Post : (Nat → Prop) → Value → World → Prop} (ho : ops[i]? = some o) (hw : Region.wanted o (yielded ops a.tmps) = true) (hk : b.kind ≠ .early)
    (hop : o.op = .call { callee := .value x, args, argTypes := ats }) (hx : a.eval x = fv)
    (h : ∀ W1, Rely O Sh w W1 → ∃ f cap, fv = .func (.func f) #[] cap ∧ (∃ g, P.funcs[f]? = some g ∧ (g.name == "runtime.NumGoroutine") = false ∧ g.body.isNone = false) ∧ CallW P main Sh Stop f (args.map a.eval ++ cap) O W1 Post)
    (hp : ∀ O' v W', Post O' v W' → Walks P main Sh Stop O' (G (b.at (a.put ((ops[i]?).bind (·.dst)) v) (.inRegion ops rest :: k)) cs) W') : Walks P main Sh Stop O (G (b.at a (.inRegion ops (i :: rest) :: k)) cs) w :=
  walks_enter ho hw hk (fun W1 hr => by
    obtain ⟨f, cap, e, ⟨g, h1, h2, h3⟩, h4⟩ := h W1 hr
    obtain ⟨r1, r2⟩ := run_call_value (w := W1) hop (hx.trans e) h1 h2 h3
    exact ⟨f, _, r1, r2, h4⟩) hp
theorem finish_G (P : Program) (b : Frame) (a : Act) (ops : Array Oper) (i : Nat) (rest : List Nat) (k : List Item) (cs : List Frame) (cases : Array CommCase) (sh : CommShape) (n : Int) (v : Value) (ok : Bool) :
    (G (b.at a (.inRegion ops (i :: rest) :: k)) cs).finishComm P cases sh n v ok = G (b.at (a.put ((ops[i]?).bind (·.dst)) (commResult cases sh n v ok)) (.inRegion ops rest :: k)) cs := by
  show ({ G (b.at a (.inRegion ops (i :: rest) :: k)) cs with frame := (b.at a (.inRegion ops (i :: rest) :: k)).finish _, status := .running, offers := none } : Goroutine) = _
  rw [Frame.finish_at]
  rfl
end k
theorem GoesJ.bindJ {P : Program} {main : Bool} {J : World → Prop} {Sh : Nat → Prop} {S1 S2 : Stp} (k : ∀ O g W, J W → S1 O g W → GoesJ P main J Sh S2 O g W) {O : Nat → Prop} {g : Goroutine} {W : World} (h : GoesJ P main J Sh S1 O g W) : GoesJ P main J Sh S2 O g W := by
  obtain ⟨T, hT⟩ := h
  exact GoesJ.bind (S1 := fun O g W => J W ∧ S1 O g W) (fun O g W q => k O g W q.1 q.2) (add hT)
 where
  add : ∀ {T : WT} {O : Nat → Prop} {g : Goroutine} {W : World}, WalksJ P main J Sh S1 T O g W → WalksJ P main J Sh (fun O g W => J W ∧ S1 O g W) T O g W
    | .stop, _, _, _, h => fun W1 q => ⟨q.j, h W1 q⟩
    | .step _, _, _, _, h => ⟨h.1, fun W1 q => by
      obtain ⟨O', g', W', es, h1, h2, h3⟩ := h.2 W1 q
      exact ⟨O', g', W', es, h1, h2, add h3⟩⟩
theorem commResult_recv (cs : Array CommCase) (k : Int) (v : Value) (ok : Bool) : commResult cs (.recv true) k v ok = .tuple #[v, .bool ok] := rfl
theorem commResult_send (cs : Array CommCase) (k : Int) (v : Value) (ok : Bool) : commResult cs .send k v ok = undef := rfl
theorem step_again {P : Program} {main : Bool} {fr : Frame} {cs : List Frame} {W : World} {s : GStep} {c1 : Array CommCase} {sh1 : CommShape} (h : stepG P main (G fr cs) W = s) : stepG P main { parked (G fr cs) c1 sh1 with status := .running } W = s := h
theorem KRecv.here {F : Farm} {n : Nat} {O : Nat → Prop} {fr : Frame} {cs : List Frame} {W : World} {z : Value} {sh : CommShape} (hc : ∀ W1, stepG F.P false (G fr cs) W1 = .comm (G fr cs) #[rcase F.cn z] true sh W1 #[])
    (ho : ∀ W1, RelyJ F.J O F.Sh W W1 → GoesJ F.P false F.J F.Sh F.Done O ((G fr cs).finishComm F.P #[rcase F.cn z] sh 0 z false) W1) (ht : ∀ n', n = n' + 1 → TaskC F (KRecv F n') O (G fr cs) z sh W) : KRecv F n O (G fr cs) W :=
  KRecv.iff.2 ⟨rfl, _, z, sh, fun d => hc (W.at d), ⟨⟨fun W2 => step_again (hc W2), ho⟩, ht⟩⟩
theorem KSend.here {F : Farm} {i : Nat} {Nx : Stp} {O : Nat → Prop} {g : Goroutine} {W : World} {v z : Value} {sh : CommShape} {X : Nat → Prop} (hs : g.status = .running) (hc : ∀ W1, stepG F.P false g W1 = .comm g #[scase F.cb v z] true sh W1 #[]) (h : SendC F i Nx O g v z sh X W) : KSend F i Nx O g W :=
  ⟨hs, g, v, z, sh, X, fun d => hc (W.at d), h⟩
end Go.Proofs.YtmbfdhekplnoaaaDoor

namespace Go.Proofs.YtmbfdhekplnoaaaDoor
open Go Go.Conc Go.RowKit

theorem Returns.of_wp {P : Program} {f : FuncId} {fn : Func} {c : Code} {a : Act} {w : World} {Q : Ending → World → Prop} (hf : P.funcs[f]? = some fn)
    (h : ∀ T, c.wp P (bodyPost P fn Q) a (World.tp w T 0)) (hQ : ∀ e w, Q e w → ∃ v, e = .returned v) : Returns P ⟨(base f).at a [.code c], [], w⟩ Q := by
  intro T
  obtain ⟨e, a', w', hq, harr⟩ := h T (base f) [] [cst]
  cases e with
  | normal =>
    obtain ⟨hd, v, hr, hR⟩ := hq
    obtain ⟨N, hN⟩ := Steps.trans harr (.one _root_.Go.step_end)
    exact ⟨v, w', _, N, hR, hN, ⟨rfl, hd, rfl, fn, hf, hr⟩, rfl⟩
  | ret =>
    obtain ⟨hd, v, hr, hR⟩ := hq
    obtain ⟨todo, N, hN⟩ := harr
    exact ⟨v, w', _, N, hR, hN, ⟨rfl, hd, rfl, fn, hf, hr⟩, rfl⟩
  | panic chain =>
    obtain ⟨hd, hR⟩ := hq
    obtain ⟨v, e⟩ := hQ _ _ hR
    cases e
  | exit id => exact hq.elim
  | goto l => exact hq.elim
  | outgrown =>
    obtain ⟨v, e⟩ := hQ _ _ hq
    cases e
end Go.Proofs.YtmbfdhekplnoaaaDoor
