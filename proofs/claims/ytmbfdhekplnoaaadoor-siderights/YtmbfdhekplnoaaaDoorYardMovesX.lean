/-
  THE YARD'S INVARIANT: how the group's cells hang on where everybody stands; what a step of one leaves.
  THE YARD'S STEP, its parts: the measure; a step at what all meet by; an own step; one that only leaves.
  THE YARD: a worker says Done, step by step.
-/
import Derived.Test.YtmbfdhekplnoaaaDoorYardX
namespace Go.Proofs.YtmbfdhekplnoaaaDoor
open Go Go.Conc
open Go.ConcN (sumTo upd sumTo_upd upd_ne upd_same)
open Go.ConcR (KK WgAt stA smA rd wr mk)

def YV (Y : Yard) (κ : Nat → YTag) : Nat := sumTo (Y.F.N + 1) fun k => (κ k).cnt
def AllQuit (Y : Yard) (κ : Nat → YTag) : Prop := ∀ k, 1 ≤ k → k < Y.F.N + 1 → (κ k).quits = true
def NoLast (Y : Yard) (κ : Nat → YTag) : Prop := ∀ k, k < Y.F.N + 1 → (κ k).last = false
def Mode (Y : Yard) (κ : Nat → YTag) (W : World) : Prop :=
  ((κ 0).opn = true ∧ NoLast Y κ ∧ (∀ vs, κ 0 = .w2 vs → YV Y κ ≤ vs ∧ 1 ≤ vs) ∧ Y.At W ((YV Y κ : Nat) * KK) 0) ∨
  ((κ 0).reg = true ∧ NoLast Y κ ∧ 1 ≤ YV Y κ ∧ Y.At W ((YV Y κ : Nat) * KK + 1) 0) ∨
  ((κ 0).reg = true ∧ ∃ L, 1 ≤ L ∧ L < Y.F.N + 1 ∧ (κ L).last = true ∧ (∀ k, 1 ≤ k → k < Y.F.N + 1 → k ≠ L → (κ k).quits = true) ∧ (κ L = .d4 → Y.At W 0 0) ∧ (κ L ≠ .d4 → Y.At W 1 0)) ∨
  ((κ 0 = .ws ∨ κ 0 = .w3) ∧ AllQuit Y κ ∧ Y.At W 0 1) ∨
  ((κ 0).fin = true ∧ AllQuit Y κ ∧ Y.At W 0 0)
structure Hist (Y : Yard) (κ : Nat → YTag) (t : Trace) : Prop where
  told : Told Y.F.ga (Y.F.N + 1) (fun k => Y.F.Q k = true) (fun k => k < Y.F.N + 1 ∧ Y.F.Q k = false ∧ (κ k).told = true) t
  oldq : ∀ k, k < Y.F.N + 1 → Y.F.Q k = true → (κ k).quits = true
  over : κ 0 = .ret → t.HandedOver
section hist
variable {Y : Yard} {κ κ' : Nat → YTag} {t u : Trace} {k : Nat} {τ : YTag}
theorem Hist.congr (h : Hist Y κ t) (hl : ∀ l, (κ' l).told = (κ l).told ∧ (κ' l).quits = (κ l).quits) (h0 : κ' 0 = .ret → κ 0 = .ret) : Hist Y κ' t :=
  ⟨by
    have e : (fun k => k < Y.F.N + 1 ∧ Y.F.Q k = false ∧ (κ' k).told = true) = fun k => k < Y.F.N + 1 ∧ Y.F.Q k = false ∧ (κ k).told = true := funext fun l => by rw [(hl l).1]
    rw [e]; exact h.told, fun l hk q => by rw [(hl l).2]; exact h.oldq l hk q, fun q => h.over (h0 q)⟩
theorem upd_like (ht : τ.told = (κ k).told) (hq : τ.quits = (κ k).quits) (l : Nat) : (upd κ k τ l).told = (κ l).told ∧ (upd κ k τ l).quits = (κ l).quits := by
  by_cases e : l = k
  · rw [e, upd_same]; exact ⟨ht, hq⟩
  · rw [upd_ne _ _ e]; exact ⟨rfl, rfl⟩
theorem main_told {q : YTag} (h : q.main = true) : q.told = false ∧ q.quits = false := by cases q <;> first | exact ⟨rfl, rfl⟩ | (cases h; done)
theorem Hist.main (h : Hist Y κ t) (hm0 : (κ 0).main = true) (hm : τ.main = true) (hr : τ ≠ .ret ∨ κ 0 = .ret) (hg : ∀ op ∈ u, op.g = 0) (hn : ∀ op ∈ u, NR op.act) : Hist Y (upd κ 0 τ) (t ++ u) := by
  have q0 : ¬ Y.F.Q 0 = true := fun z => by have := h.oldq 0 (by omega) z; rw [(main_told hm0).2] at this; cases this
  have b : Hist Y κ (t ++ u) := ⟨h.told.own hn hg (by omega) q0 (fun z => by rw [(main_told hm0).1] at z; cases z.2.2), h.oldq, fun z => handedOver_app (h.over z) fun op hop => .inl (hg op hop)⟩
  exact b.congr (upd_like ((main_told hm).1.trans (main_told hm0).1.symm) ((main_told hm).2.trans (main_told hm0).2.symm)) fun z => hr.elim (fun y => by rw [upd_same] at z; exact absurd z y) id
theorem Hist.quiet (h : Hist Y κ t) (hk : k < Y.F.N + 1) (ht : τ.told = (κ k).told) (hq : τ.quits = (κ k).quits) (h0 : k = 0 → τ ≠ .ret) (hg : ∀ op ∈ u, op.g = k) (hn : ∀ op ∈ u, NR op.act) (hu : ∀ op ∈ u, op.act.touch? = none) : Hist Y (upd κ k τ) (t ++ u) := by
  have b : Hist Y κ (t ++ u) := ⟨h.told.mute hn (fun op hop => by rw [hg op hop]; exact hk) hu, h.oldq, fun z => handedOver_app (h.over z) fun op hop => .inr (hu op hop)⟩
  refine b.congr (upd_like ht hq) fun z => ?_
  by_cases e : (0 : Nat) = k
  · subst e; rw [upd_same] at z; exact absurd z (h0 rfl)
  · rwa [upd_ne _ _ e] at z
theorem Hist.work (h : Hist Y κ t) (hk : k < Y.F.N + 1) (k0 : k ≠ 0) (nr : κ 0 ≠ .ret) (nt : (κ k).told = false) (nq : (κ k).quits = false) (ht : τ.told = false) (hq : τ.quits = false) (hg : ∀ op ∈ u, op.g = k) (hn : ∀ op ∈ u, NR op.act) : Hist Y (upd κ k τ) (t ++ u) := by
  have q0 : ¬ Y.F.Q k = true := fun z => by have := h.oldq k hk z; rw [nq] at this; cases this
  have b : Hist Y κ (t ++ u) := ⟨h.told.own hn hg hk q0 (fun z => by rw [nt] at z; cases z.2.2), h.oldq, fun z => absurd z nr⟩
  exact b.congr (upd_like (ht.trans nt.symm) (hq.trans nq.symm)) fun z => by rwa [upd_ne _ _ k0.symm] at z
theorem Hist.say (h : Hist Y κ t) (hk : k < Y.F.N + 1) (k0 : k ≠ 0) (nr : κ 0 ≠ .ret) (nq : (κ k).quits = false) (ht : τ.told = true) (hd : Deaf t k = 0) {op : MemOp} (hg : op.g = k) (ha : op.act = .mark (.releaseMerge Y.F.ga)) : Hist Y (upd κ k τ) (t ++ #[op]) := by
  have q0 : Y.F.Q k = false := by
    cases z : Y.F.Q k with
    | false => rfl
    | true => have := h.oldq k hk z; rw [nq] at this; cases this
  have b := h.told.say hg ha hk hd
  refine ⟨?_, fun l hl z => ?_, fun z => by rw [upd_ne _ _ k0.symm] at z; exact absurd z nr⟩
  · have e : (fun l => l < Y.F.N + 1 ∧ Y.F.Q l = false ∧ (upd κ k τ l).told = true) = fun l => (l < Y.F.N + 1 ∧ Y.F.Q l = false ∧ (κ l).told = true) ∨ l = k := funext fun l => by
      by_cases e : l = k
      · subst e; rw [upd_same, ht, q0]; simp [hk]
      · rw [upd_ne _ _ e]; simp [e]
    rw [e]; exact b
  · have lk : l ≠ k := fun e => by rw [e, q0] at z; cases z
    rw [upd_ne _ _ lk]; exact h.oldq l hl z
theorem Hist.deaf (h : Hist Y κ t) (k0 : k ≠ 0) (nr : κ 0 ≠ .ret) (nt : (κ k).told = true) (nq : (κ k).quits = false) (ht : τ.told = true) (b : Told Y.F.ga (Y.F.N + 1) (fun k => Y.F.Q k = true) (fun k => k < Y.F.N + 1 ∧ Y.F.Q k = false ∧ (κ k).told = true) (t ++ u)) : Hist Y (upd κ k τ) (t ++ u) := by
  have e : (fun l => l < Y.F.N + 1 ∧ Y.F.Q l = false ∧ (upd κ k τ l).told = true) = fun l => l < Y.F.N + 1 ∧ Y.F.Q l = false ∧ (κ l).told = true := funext fun l => by
    by_cases e : l = k
    · rw [e, upd_same, ht, nt]
    · rw [upd_ne _ _ e]
  refine ⟨by rw [e]; exact b, fun l hl z => ?_, fun z => by rw [upd_ne _ _ k0.symm] at z; exact absurd z nr⟩
  have lk : l ≠ k := fun e => by have := h.oldq l hl z; rw [e, nq] at this; cases this
  rw [upd_ne _ _ lk]; exact h.oldq l hl z
theorem Hist.old (h : Hist Y κ t) (hk : k < Y.F.N + 1) (nq : (κ k).quits = false) : ¬ Y.F.Q k = true := fun z => by have := h.oldq k hk z; rw [nq] at this; cases this
end hist
structure YardAt (Y : Yard) (gs : Array Goroutine) (W : World) (t : Trace) (κ : Nat → YTag) (T : Nat → WT) (Own : Nat → Nat → Prop) : Prop where
  size : gs.size = Y.F.N + 1
  own : Owners t Y.F.A W.heap.size Own Y.F.Sh Y.F.Sy
  hist : Hist Y κ t
  deaf : ∀ k, k < Y.F.N + 1 → (κ k).quits = false → Deaf t k = (κ k).deaf
  left : ∀ k q g, k < Y.F.N + 1 → κ k = .quit q → gs[k]? = some g → QuitsD Y.F.P q (Deaf t k) g
  cn : ∃ s tm c, W.heap[Y.F.cn]? = some (.chan 0 #[] c s s tm) ∧ (c = false ↔ κ 0 = .cl)
  j : Y.F.J W
  zero : (κ 0).main = true
  oth : ∀ k, 1 ≤ k → (κ k).main = false
  nopk : ∀ k f, k < Y.F.N + 1 → κ k = .pk f → κ 0 = .cl
  notr : ∀ k f, k < Y.F.N + 1 → κ k = .tr f → κ 0 ≠ .cl
  at_ : ∀ k, k < Y.F.N + 1 → ∃ g, gs[k]? = some g ∧ YAt Y (T k) (Own k) g W (κ k)
  mode : Mode Y κ W
structure Woke (κ κ' : Nat → YTag) (k : Nat) (τ : YTag) : Prop where
  at_ : κ' k = τ
  oth : ∀ i, i ≠ k → κ' i = κ i ∨ (i = 0 ∧ κ 0 = .blk ∧ κ' 0 = .w3)
section inv
variable {Y : Yard} {gs : Array Goroutine} {W W' : World} {t : Trace} {κ : Nat → YTag} {T : Nat → WT} {Own Own' : Nat → Nat → Prop}
theorem YardAt.act (h : YardAt Y gs W t κ T Own) {k : Nat} (hk : k < Y.F.N + 1) (nq : (κ k).quits = false) : Y.F.A k := ⟨hk, by
  cases z : Y.F.Q k with
  | false => rfl
  | true => have := h.hist.oldq k hk z; rw [nq] at this; cases this⟩
theorem YardAt.noret (h : YardAt Y gs W t κ T Own) {k : Nat} (hk : k < Y.F.N + 1) (k0 : k ≠ 0) (nq : (κ k).quits = false) : κ 0 ≠ .ret := fun e => by
  rcases h.mode with ⟨a, _⟩ | ⟨a, _⟩ | ⟨a, _⟩ | ⟨a, _⟩ | ⟨_, m, _⟩
  · rw [e] at a; cases a
  · rw [e] at a; cases a
  · rw [e] at a; cases a
  · rw [e] at a; rcases a with a | a <;> cases a
  · have := m k (by omega) hk; rw [nq] at this; cases this
theorem Mode.group (h : Mode Y κ W) : ∃ st sm, Y.At W st sm := by
  rcases h with h | h | ⟨_, L, _, _, _, _, h1, h2⟩ | h | h
  · exact ⟨_, _, h.2.2.2⟩
  · exact ⟨_, _, h.2.2.2⟩
  · by_cases e : κ L = .d4
    · exact ⟨_, _, h1 e⟩
    · exact ⟨_, _, h2 e⟩
  · exact ⟨_, _, h.2.2⟩
  · exact ⟨_, _, h.2.2⟩
theorem woken_blk {g1 a a' : Goroutine} {P : Program} (hs : g1.status = .running) (ho : g1.offers = none) : woken P a a' W' { g1 with status := .blocked } = if (mayWake P a && a'.status != .blocked && a'.status != .waiting) = true then g1 else { g1 with status := .blocked } := by
  unfold woken
  split
  · obtain ⟨fr, cs, st, dy, of⟩ := g1
    have hs : st = .running := hs
    have ho : of = none := ho
    subst hs ho
    rfl
  · rfl
theorem YardAt.turn (K : Y.Known) (h : YardAt Y gs W t κ T Own) {k : Nat} (hk : k < Y.F.N + 1) {g g' : Goroutine} {ops : Trace} (τ : YTag) (T1 : WT) (hops : ∀ op ∈ ops, op.g = k)
    (hh : Hist Y (upd κ k τ) (t ++ ops)) (own' : Owners (t ++ ops) Y.F.A W'.heap.size Own' Y.F.Sh Y.F.Sy) (rel : ∀ i, i ≠ k → RelyJ Y.F.J (Own i) Y.F.Sh W W') (ownO : ∀ i, i ≠ k → Own' i = Own i) (hat : YAt Y T1 (Own' k) g' W' τ) (hJ : Y.F.J W') (hcn : W'.heap[Y.F.cn]? = W.heap[Y.F.cn]?) (hcl : k = 0 → (τ = .cl ↔ κ 0 = .cl))
    (hdf : τ.quits = false → Deaf (t ++ ops) k = τ.deaf) (hlf : ∀ q, τ = .quit q → QuitsD Y.F.P q (Deaf (t ++ ops) k) g') (hmn : τ.main = (κ k).main) (hpk : ∀ f, τ = .pk f → κ 0 = .cl) (htr : ∀ f, τ = .tr f → κ 0 ≠ .cl)
    (hmode : ∀ κ', Woke κ κ' k τ → (k ≠ 0 → mayWake Y.F.P g = true → g'.status ≠ .blocked → g'.status ≠ .waiting → κ' 0 ≠ .blk) → Mode Y κ' W') :
    ∃ κ', Woke κ κ' k τ ∧ (κ' = upd κ k τ ∨ (κ 0 = .blk ∧ k ≠ 0 ∧ κ' = upd (upd κ 0 .w3) k τ)) ∧ YardAt Y ((gs.map (woken Y.F.P g g' W')).setIfInBounds k g') W' (t ++ ops) κ' (upd T k T1) Own' := by
  have base : ∀ κ', Woke κ κ' k τ → (k ≠ 0 → mayWake Y.F.P g = true → g'.status ≠ .blocked → g'.status ≠ .waiting → κ' 0 ≠ .blk) →
      (∀ i, i < Y.F.N + 1 → i ≠ k → ∃ gi, gs[i]? = some gi ∧ YAt Y (T i) (Own i) (woken Y.F.P g g' W' gi) W (κ' i)) → YardAt Y ((gs.map (woken Y.F.P g g' W')).setIfInBounds k g') W' (t ++ ops) κ' (upd T k T1) Own' := by
    intro κ' hw hbl hoth
    have k0 : κ' 0 = .cl ↔ κ 0 = .cl := by
      by_cases e : (0 : Nat) = k
      · subst e; rw [hw.at_]; exact hcl rfl
      · rcases hw.oth 0 e with q | ⟨_, q1, q2⟩
        · rw [q]
        · rw [q1, q2]; exact ⟨fun z => (by cases z), fun z => (by cases z)⟩
    have mn : ∀ i, (κ' i).main = (κ i).main := fun i => by
      by_cases e : i = k
      · rw [e, hw.at_]; exact hmn
      · rcases hw.oth i e with q | ⟨rfl, q1, q2⟩
        · rw [q]
        · rw [q1, q2]; rfl
    have Do : ∀ l, l ≠ k → Deaf (t ++ ops) l = Deaf t l := fun l hl => Deaf_other t (fun e => hl e.symm) _ hops
    obtain ⟨s, tm, c, hc, hcc⟩ := h.cn
    exact { size := by simp [h.size]
            own := own'
            hist := hh.congr (fun l => by
              by_cases e : l = k
              · rw [e, hw.at_, upd_same]; exact ⟨rfl, rfl⟩
              · rw [upd_ne _ _ e]
                rcases hw.oth l e with q | ⟨rfl, q1, q2⟩
                · rw [q]; exact ⟨rfl, rfl⟩
                · rw [q1, q2]; exact ⟨rfl, rfl⟩) fun z => by
              by_cases e : (0 : Nat) = k
              · subst e; rw [hw.at_] at z; rw [upd_same]; exact z
              · rw [upd_ne _ _ e]
                rcases hw.oth 0 e with q | ⟨_, _, q2⟩
                · rw [← q]; exact z
                · rw [q2] at z; cases z
            deaf := fun l hl q => by
              by_cases e : l = k
              · subst e; rw [hw.at_] at q ⊢; exact hdf q
              · rw [Do l e]
                rcases hw.oth l e with z | ⟨rfl, z1, z2⟩
                · rw [z] at q ⊢; exact h.deaf l hl q
                · rw [z2]; have := h.deaf 0 hl (by rw [z1]; rfl); rw [z1] at this; exact this
            left := fun l q gl hl e hgl => by
              by_cases lk : l = k
              · subst lk
                rw [hw.at_] at e
                rw [get_mapset_same _ _ _ (by rw [h.size]; exact hl)] at hgl
                cases hgl
                exact hlf q e
              · rw [Do l lk]
                rcases hw.oth l lk with z | ⟨z0, _, z2⟩
                · rw [z] at e
                  obtain ⟨gi, hgi, _⟩ := h.at_ l hl
                  rw [get_mapset _ _ _ _ lk, hgi] at hgl
                  have hq := h.left l q gi hl e hgi
                  have : gl = gi := (Option.some.inj hgl).symm.trans (woken_quitsD hq)
                  rw [this]; exact hq
                · rw [z0, z2] at e; cases e
            cn := ⟨s, tm, c, hcn.trans hc, hcc.trans k0.symm⟩
            j := hJ
            zero := by rw [mn]; exact h.zero
            oth := fun l hl => by rw [mn]; exact h.oth l hl
            nopk := fun l f hl e => by
              rw [k0]
              by_cases lk : l = k
              · rw [lk, hw.at_] at e; exact hpk f e
              · rcases hw.oth l lk with z | ⟨z0, _, z2⟩
                · rw [z] at e; exact h.nopk l f hl e
                · rw [z0, z2] at e; cases e
            notr := fun l f hl e => by
              rw [Ne, k0]
              by_cases lk : l = k
              · rw [lk, hw.at_] at e; exact htr f e
              · rcases hw.oth l lk with z | ⟨z0, _, z2⟩
                · rw [z] at e; exact h.notr l f hl e
                · rw [z0, z2] at e; cases e
            at_ := fun l hl => by
              by_cases lk : l = k
              · refine ⟨g', by rw [lk]; exact get_mapset_same _ _ _ (by rw [h.size]; exact hk), ?_⟩
                rw [lk, upd_same, hw.at_]
                exact hat
              · obtain ⟨gi, hgi, ha⟩ := hoth l hl lk
                refine ⟨_, by rw [get_mapset _ _ _ _ lk, hgi]; rfl, ?_⟩
                rw [upd_ne _ _ lk, ownO l lk]
                exact ha.rely (rel l lk)
            mode := hmode κ' hw hbl }
  -- everybody but a starter that is blocked is as it was
  have same : ∀ i, i < Y.F.N + 1 → i ≠ k → κ i ≠ .blk → ∃ gi, gs[i]? = some gi ∧ YAt Y (T i) (Own i) (woken Y.F.P g g' W' gi) W (κ i) := fun i hi ik nb => by
    obtain ⟨gi, hgi, ha⟩ := h.at_ i hi
    refine ⟨gi, hgi, ?_⟩
    have e : woken Y.F.P g g' W' gi = gi := by
      rcases ha.status K h.j with ⟨f, q⟩ | q | ⟨q', q⟩ | q
      · have c0 := h.nopk i f hi q
        obtain ⟨s, tm, c, hc, hcc⟩ := h.cn
        rw [hcc.2 c0] at hc
        rw [q] at ha
        obtain ⟨g₂, z, sh, rfl, _⟩ := ha
        exact woken_recv_open _ _ (hcn.trans hc)
      · exact absurd q nb
      · exact woken_quitsD (h.left i q' gi hi q hgi)
      · unfold woken
        split
        · exact again_running _ (.inl q)
        · rfl
    rw [e]
    exact ha
  have nblk : ∀ i, i ≠ 0 → κ i ≠ .blk := fun i hi e => by have := h.oth i (by omega); rw [e] at this; cases this
  by_cases hb : κ 0 = .blk ∧ k ≠ 0
  · obtain ⟨hb, hk0⟩ := hb
    obtain ⟨g0, hg0, ha0⟩ := h.at_ 0 (by omega)
    rw [hb] at ha0
    obtain ⟨hT0, g1, rfl, hw3⟩ := ha0
    by_cases wk : (mayWake Y.F.P g && g'.status != .blocked && g'.status != .waiting) = true
    · have W1 : Woke κ (upd (upd κ 0 .w3) k τ) k τ := ⟨upd_same _ _ _, fun i hi => by
        rw [upd_ne _ _ hi]
        by_cases i0 : i = 0
        · rw [i0]; exact .inr ⟨rfl, hb, by rw [upd_ne _ _ hk0.symm, upd_same]⟩
        · rw [upd_ne _ _ i0]; exact .inl rfl⟩
      refine ⟨_, W1, .inr ⟨hb, hk0, rfl⟩, base _ W1 (fun _ _ _ _ => by rw [upd_ne _ _ hk0.symm, upd_same]; exact fun z => by cases z) fun i hi ik => ?_⟩
      rw [upd_ne _ _ ik]
      by_cases i0 : i = 0
      · rw [i0, upd_same]
        refine ⟨_, hg0, ?_⟩
        rw [woken_blk hw3.1 hw3.2.1, if_pos wk, hT0]
        exact fun W2 q => hw3.rely q
      · rw [upd_ne _ _ i0]; exact same i hi ik (nblk i i0)
    · have W1 : Woke κ (upd κ k τ) k τ := ⟨upd_same _ _ _, fun i hi => .inl (upd_ne _ _ hi)⟩
      refine ⟨_, W1, .inl rfl, base _ W1 (fun _ a b c => absurd (show (mayWake Y.F.P g && g'.status != .blocked && g'.status != .waiting) = true by simp [a, b, c]) wk) fun i hi ik => ?_⟩
      rw [upd_ne _ _ ik]
      by_cases i0 : i = 0
      · rw [i0, hb]
        refine ⟨_, hg0, ?_⟩
        rw [woken_blk hw3.1 hw3.2.1, if_neg wk]
        exact ⟨hT0, g1, rfl, hw3⟩
      · exact same i hi ik (nblk i i0)
  · have W1 : Woke κ (upd κ k τ) k τ := ⟨upd_same _ _ _, fun i hi => .inl (upd_ne _ _ hi)⟩
    refine ⟨_, W1, .inl rfl, base _ W1 (fun k0 _ _ _ z => hb ⟨by rwa [upd_ne _ _ k0.symm] at z, k0⟩) fun i hi ik => ?_⟩
    rw [upd_ne _ _ ik]
    by_cases i0 : i = 0
    · exact same i hi ik fun z => hb ⟨i0 ▸ z, by omega⟩
    · exact same i hi ik (nblk i i0)
end inv
end Go.Proofs.YtmbfdhekplnoaaaDoor

namespace Go.Proofs.YtmbfdhekplnoaaaDoor
open Go Go.Conc
open Go.ConcN (sumTo upd sumTo_upd upd_ne upd_same sumTo_congr)
open Go.ConcR (KK WgAt stA smA rd wr mk)

def yrank (V : Nat) : YTag → Nat
  | .cl => 2 * V + 12 | .kd => 2 * V + 11 | .an => 2 * V + 10 | .w2 vs => 2 * vs + 9 | .ws => 8 | .w3 | .blk => 7 | .w4 => 6 | .ke => 5 | .acq => 4 | .ret => 3
  | _ => 0
theorem yrank_mono {V V' : Nat} (h : V' ≤ V) (k : YTag) : yrank V' k ≤ yrank V k := by cases k <;> simp [yrank] <;> omega
def yphi (Y : Yard) (κ : Nat → YTag) : Nat := sumTo (Y.F.N + 1) (fun k => (κ k).stage) + yrank (YV Y κ) (κ 0)
def yflag (κ : Nat → YTag) : Nat := match κ 0 with
  | .w3 => 1
  | _ => 0
def LtY (n : Nat) : (Nat × (Nat → WT) × Nat) → (Nat × (Nat → WT) × Nat) → Prop := Prod.Lex (· < ·) (Prod.Lex (LtN n) (· < ·))
theorem ltY_wf (n : Nat) : WellFounded (LtY n) := (Prod.lex ⟨_, Nat.lt_wfRel.wf⟩ (Prod.lex ⟨_, ltN_wf n⟩ ⟨_, Nat.lt_wfRel.wf⟩)).wf
def YNext (Y : Yard) (x : Stepped × Array MemOp) (t : Trace) (κ : Nat → YTag) (T : Nat → WT) : Prop :=
  ∃ gs' W' sl' ops κ' T' Own', x = (.next (crowd gs' W' sl'), ops) ∧ LtY (Y.F.N + 1) (yphi Y κ', T', yflag κ') (yphi Y κ, T, yflag κ) ∧ YardAt Y gs' W' (t ++ ops) κ' T' Own'
section step
variable {Y : Yard} {gs : Array Goroutine} {W W' : World} {t : Trace} {κ κ' : Nat → YTag} {T : Nat → WT} {Own : Nat → Nat → Prop} {k : Nat} {τ : YTag}
theorem Woke.like (h : Woke κ κ' k τ) (i : Nat) : (κ' i).stage = (upd κ k τ i).stage ∧ (κ' i).cnt = (upd κ k τ i).cnt ∧ (κ' i).last = (upd κ k τ i).last ∧ (κ' i).quits = (upd κ k τ i).quits ∧ (κ' i = .d4 ↔ upd κ k τ i = .d4) := by
  by_cases e : i = k
  · rw [e, h.at_, upd_same]; exact ⟨rfl, rfl, rfl, rfl, .rfl⟩
  · rw [upd_ne _ _ e]
    rcases h.oth i e with q | ⟨rfl, q1, q2⟩
    · rw [q]; exact ⟨rfl, rfl, rfl, rfl, .rfl⟩
    · rw [q1, q2]; exact ⟨rfl, rfl, rfl, rfl, fun z => (by cases z), fun z => (by cases z)⟩
theorem Woke.V (h : Woke κ κ' k τ) : YV Y κ' = YV Y (upd κ k τ) := sumTo_congr fun i _ => (h.like i).2.1
theorem Woke.rank (h : Woke κ κ' k τ) (V : Nat) : yrank V (κ' 0) = yrank V (upd κ k τ 0) := by
  by_cases e : (0 : Nat) = k
  · subst e; rw [h.at_, upd_same]
  · rw [upd_ne _ _ e]
    rcases h.oth 0 e with q | ⟨_, q1, q2⟩
    · rw [q]
    · rw [q1, q2]; rfl
theorem Woke.phi (h : Woke κ κ' k τ) : yphi Y κ' = yphi Y (upd κ k τ) := by
  unfold yphi
  rw [h.V, h.rank]
  congr 1
  exact sumTo_congr fun i _ => (h.like i).1
theorem YV_upd (hk : k < Y.F.N + 1) : YV Y (upd κ k τ) + (κ k).cnt = YV Y κ + τ.cnt := sumTo_upd κ τ YTag.cnt hk
theorem phi_worker (hk : k < Y.F.N + 1) (k0 : k ≠ 0) (hs : τ.stage < (κ k).stage) (hc : τ.cnt ≤ (κ k).cnt) : yphi Y (upd κ k τ) < yphi Y κ := by
  unfold yphi
  have h1 := sumTo_upd κ τ YTag.stage hk
  have h2 := YV_upd (Y := Y) (κ := κ) (τ := τ) hk
  rw [upd_ne _ _ k0.symm]
  have := yrank_mono (V := YV Y κ) (V' := YV Y (upd κ k τ)) (by omega) (κ 0)
  omega
theorem phi_main (hm : τ.main = true) (hm0 : (κ 0).main = true) (hr : yrank (YV Y κ) τ < yrank (YV Y κ) (κ 0)) : yphi Y (upd κ 0 τ) < yphi Y κ := by
  unfold yphi
  have z : ∀ q : YTag, q.main = true → q.stage = 0 ∧ q.cnt = 0 := fun q e => by cases q <;> first | exact ⟨rfl, rfl⟩ | cases e
  have h1 := sumTo_upd κ τ YTag.stage (show 0 < Y.F.N + 1 by omega)
  have h2 := YV_upd (Y := Y) (κ := κ) (τ := τ) (k := 0) (by omega)
  rw [(z τ hm).1, (z _ hm0).1] at h1
  rw [(z τ hm).2, (z _ hm0).2] at h2
  rw [upd_same, show YV Y (upd κ 0 τ) = YV Y κ by omega]
  omega
theorem Mode.congr (h : Mode Y κ W) (hl : ∀ i, (κ' i).cnt = (κ i).cnt ∧ (κ' i).last = (κ i).last ∧ (κ' i).quits = (κ i).quits ∧ (κ' i = .d4 ↔ κ i = .d4)) (h0 : κ' 0 = κ 0 ∨ (κ 0 = .blk ∧ κ' 0 = .w3)) (hg : W'.heap[Y.Wg]? = W.heap[Y.Wg]?) : Mode Y κ' W' := by
  have at_ : ∀ {st sm}, Y.At W st sm → Y.At W' st sm := fun q => hg.trans q
  have hV : YV Y κ' = YV Y κ := sumTo_congr fun i _ => (hl i).1
  have nl : NoLast Y κ → NoLast Y κ' := fun q k hk => by rw [(hl k).2.1]; exact q k hk
  have aq : AllQuit Y κ → AllQuit Y κ' := fun q k h1 hk => by rw [(hl k).2.2.1]; exact q k h1 hk
  have reg : (κ 0).reg = true → (κ' 0).reg = true := fun q => by
    rcases h0 with e | ⟨_, e⟩
    · rw [e]; exact q
    · rw [e]; rfl
  rcases h with ⟨a, b, c, d⟩ | ⟨a, b, c, d⟩ | ⟨a, L, l1, l2, l3, l4, l5, l6⟩ | ⟨a, b, c⟩ | ⟨a, b, c⟩
  · have e : κ' 0 = κ 0 := h0.elim id fun q => by rw [q.1] at a; cases a
    exact .inl ⟨by rw [e]; exact a, nl b, fun vs q => by rw [hV]; exact c vs (e ▸ q), by rw [hV]; exact at_ d⟩
  · exact .inr (.inl ⟨reg a, nl b, by rw [hV]; exact c, by rw [hV]; exact at_ d⟩)
  · exact .inr (.inr (.inl ⟨reg a, L, l1, l2, by rw [(hl L).2.1]; exact l3, fun k a b c => by rw [(hl k).2.2.1]; exact l4 k a b c, fun q => at_ (l5 ((hl L).2.2.2.1 q)), fun q => at_ (l6 fun z => q ((hl L).2.2.2.2 z))⟩))
  · have e : κ' 0 = κ 0 := h0.elim id fun q => by rw [q.1] at a; rcases a with a | a <;> cases a
    exact .inr (.inr (.inr (.inl ⟨by rw [e]; exact a, aq b, at_ c⟩)))
  · have e : κ' 0 = κ 0 := h0.elim id fun q => by rw [q.1] at a; cases a
    exact .inr (.inr (.inr (.inr ⟨by rw [e]; exact a, aq b, at_ c⟩)))
theorem Mode.stays (h : Mode Y κ W) (k0 : k ≠ 0) (hw : Woke κ κ' k τ) (hc : τ.cnt = (κ k).cnt) (hl : τ.last = (κ k).last) (hq : τ.quits = (κ k).quits) (h4 : τ = .d4 ↔ κ k = .d4) (hg : W'.heap[Y.Wg]? = W.heap[Y.Wg]?) : Mode Y κ' W' := by
  refine h.congr (fun i => ?_) ?_ hg
  · obtain ⟨_, a, b, c, d⟩ := hw.like i
    rw [a, b, c]
    by_cases e : i = k
    · rw [e, upd_same, hc, hl, hq]; refine ⟨rfl, rfl, rfl, ?_⟩; rw [hw.at_]; exact h4
    · rw [upd_ne _ _ e] at d ⊢; exact ⟨rfl, rfl, rfl, d⟩
  · rcases hw.oth 0 k0.symm with q | ⟨_, q1, q2⟩
    · exact .inl q
    · exact .inr ⟨q1, q2⟩
theorem YardAt.sync (K : Y.Known) (h : YardAt Y gs W t κ T Own) (hk : k < Y.F.N + 1) {g g' : Goroutine} {es : Array Event} (hh : Hist Y (upd κ k τ) (t ++ MemOp.ofEvents k g.frame.fn g.frame.place es)) (hA : (κ k).quits = false) (hg : gs[k]? = some g) (d : Nat) (sl : Option (Nat × Nat)) (hs : stepG Y.F.P (k == 0) g (W.at d) = .go g' W' es) (hW : SyOnly Y.F.Sy W W') (hes : ∀ e ∈ es, EvS Y.F.Sy k e)
    (hsy : ∀ b, Y.F.Sy b → b ≠ Y.Wg → W'.heap[b]? = W.heap[b]?) (hgr : ∃ st sm, Y.At W' st sm) (hat : ∃ T1, YAt Y T1 (Own k) g' W' τ) (hcl : k = 0 → (τ = .cl ↔ κ 0 = .cl)) (hdf : τ.quits = false → deafBehind (Deaf t k) es = τ.deaf) (hlf : ∀ q, τ = .quit q → QuitsD Y.F.P q (deafBehind (Deaf t k) es) g') (hmn : τ.main = (κ k).main) (hpk : ∀ f, τ ≠ .pk f)
    (hmode : ∀ κ', Woke κ κ' k τ → (k ≠ 0 → mayWake Y.F.P g = true → g'.status ≠ .blocked → g'.status ≠ .waiting → κ' 0 ≠ .blk) → Mode Y κ' W') (hphi : yphi Y (upd κ k τ) < yphi Y κ) (htr : ∀ f, τ ≠ .tr f := by intro f e; cases e) : YNext Y (runT Y.F.P (crowd gs (W.at d) sl) k) t κ T := by
  obtain ⟨hrun, hO, hR⟩ := crowd_sync (sl := sl) h.own hg d hs hW (.inr (h.act hk hA)) hes
  obtain ⟨T1, hT1⟩ := hat
  have hJ : Y.F.J W' := K.jg W W' hsy hgr h.j
  have Dk : Deaf (t ++ MemOp.ofEvents k g.frame.fn g.frame.place es) k = deafBehind (Deaf t k) es := Deaf_own t k _ _ es
  obtain ⟨κ', hw, _, hY⟩ := h.turn K hk (g := g) (g' := g') (ops := MemOp.ofEvents k g.frame.fn g.frame.place es) τ T1 (fun op hop => by obtain ⟨e, _, rfl⟩ := Go.Conc.mem_ofEvents hop; rfl) hh hO (fun i _ => ⟨hR i, h.j, hJ⟩) (fun _ _ => rfl) hT1 hJ (hsy _ K.f.syn K.wn.symm) hcl (fun q => by rw [Dk]; exact hdf q) (fun q e => by rw [Dk]; exact hlf q e) hmn (fun f e => absurd e (hpk f)) (fun f e => absurd e (htr f)) hmode
  exact ⟨_, _, sl, _, κ', upd T k T1, Own, hrun, .left _ _ (by rw [hw.phi]; exact hphi), hY⟩
theorem YardAt.ownStep (K : Y.Known) (h : YardAt Y gs W t κ T Own) (hk : k < Y.F.N + 1) {g : Goroutine} (hg : gs[k]? = some g) {S : Stp} {f : World → WT} (hT : T k = .step f) (hw : WalksJ Y.F.P (k == 0) Y.F.J Y.F.Sh S (T k) (Own k) g W) (back : ∀ T' O' g' W', WalksJ Y.F.P (k == 0) Y.F.J Y.F.Sh S T' O' g' W' → YAt Y T' O' g' W' (κ k)) (nq : (κ k).quits = false) (nt : k ≠ 0 → (κ k).told = false) (npk : ∀ f, κ k ≠ .pk f) (ntr : ∀ f, κ k ≠ .tr f)
    (d : Nat) (sl : Option (Nat × Nat)) : YNext Y (runT Y.F.P (crowd gs (W.at d) sl) k) t κ T := by
  rw [hT] at hw
  obtain ⟨O', g', W', es, t1, hsub, hrun, hw', hO', hD, hR, hSy, _, _, _, hev, _⟩ := crowd_ownJ (sl := sl) h.own K.f.jst h.j (h.act hk nq) hg hw d
  have hgk : ∀ op ∈ MemOp.ofEvents k g.frame.fn g.frame.place es, op.g = k := fun op hop => by obtain ⟨_, _, rfl⟩ := Go.Conc.mem_ofEvents hop; rfl
  have hnr : ∀ op ∈ MemOp.ofEvents k g.frame.fn g.frame.place es, NR op.act := fun op hop _ e => by
    obtain ⟨ev, he, rfl⟩ := Go.Conc.mem_ofEvents hop
    exact evG_norel (hev ev he) _ e
  have hh : Hist Y (upd κ k (κ k)) (t ++ MemOp.ofEvents k g.frame.fn g.frame.place es) := by
    by_cases k0 : k = 0
    · subst k0
      exact h.hist.main h.zero h.zero (Classical.or_iff_not_imp_left.2 fun z => Classical.not_not.1 z) hgk hnr
    · exact h.hist.work hk k0 (h.noret hk k0 nq) (nt k0) nq (nt k0) nq hgk hnr
  have Dk := hD k
  obtain ⟨κ', hwk, hκ', hY⟩ := h.turn K hk (g := g) (g' := g') (ops := MemOp.ofEvents k g.frame.fn g.frame.place es) (κ k) t1 hgk hh hO' hR (fun i hi => ownUpd_other Own O' hi) (by rw [ownUpd_same]; exact back _ _ _ _ hw') (K.f.jst _ _ hSy h.j) (hSy _ K.f.syn) (fun e => by rw [e]) (fun q => by rw [Dk]; exact h.deaf k hk q) (fun q e => by rw [e] at nq; cases nq) rfl (fun f e => absurd e (npk f)) (fun f e => absurd e (ntr f))
    (fun κ' hw' _ => by
      refine h.mode.congr (fun i => ?_) ?_ (hSy _ K.syw)
      · obtain ⟨_, a, b, c, d'⟩ := hw'.like i
        have e : upd κ k (κ k) i = κ i := by
          by_cases e : i = k
          · rw [e, upd_same]
          · exact upd_ne _ _ e
        rw [e] at a b c d'
        exact ⟨a, b, c, d'⟩
      · by_cases e : (0 : Nat) = k
        · subst e; exact .inl hw'.at_
        · rcases hw'.oth 0 e with q | ⟨_, q1, q2⟩
          · exact .inl q
          · exact .inr ⟨q1, q2⟩)
  have same : upd κ k (κ k) = κ := by
    funext i
    by_cases e : i = k
    · rw [e, upd_same]
    · exact upd_ne _ _ e
  refine ⟨_, _, sl, _, κ', upd T k t1, _, hrun, ?_, hY⟩
  have : yphi Y κ' = yphi Y κ := by rw [hwk.phi, same]
  rw [this]
  exact .right _ (.left _ _ ⟨k, hk, by rw [upd_same, hT]; exact hsub, fun j hj => upd_ne _ _ hj⟩)
theorem YardAt.quietStep (K : Y.Known) (h : YardAt Y gs W t κ T Own) (hk : k < Y.F.N + 1) (k0 : k ≠ 0) {g : Goroutine} (hg : gs[k]? = some g) {S : Stp} {f : World → WT} (hT : T k = .step f) (hw : QWalk Y.F.P Y.F.J Y.F.Sh S (T k) (Own k) g W) (back : ∀ T' O' g' W', QWalk Y.F.P Y.F.J Y.F.Sh S T' O' g' W' → YAt Y T' O' g' W' (κ k)) (nq : (κ k).quits = false) (npk : ∀ f, κ k ≠ .pk f) (ntr : ∀ f, κ k ≠ .tr f)
    (d : Nat) (sl : Option (Nat × Nat)) : YNext Y (runT Y.F.P (crowd gs (W.at d) sl) k) t κ T := by
  rw [hT] at hw
  obtain ⟨g', hs, hw'⟩ := hw.2 (W.at d) ⟨Rely.at _ _ _ _, h.j, K.f.jst W _ (fun _ _ => rfl) h.j⟩
  have kf : (k == 0) = false := by rw [beq_eq_false_iff_ne]; exact k0
  have hs' : stepG Y.F.P (k == 0) g (W.at d) = .go g' (W.at d) #[] := by rw [kf]; exact hs
  obtain ⟨hrun, hO, hR⟩ := crowd_sync (sl := sl) h.own hg d hs' (SyOnly.at _ W d) (.inl rfl) (fun e he => by cases he.1)
  have jd : Y.F.J (W.at d) := K.f.jst W (W.at d) (fun _ _ => rfl) h.j
  have Dn : ∀ l, Deaf (t ++ MemOp.ofEvents k g.frame.fn g.frame.place #[]) l = Deaf t l := fun l => by rw [nil_ops]
  obtain ⟨κ', hwk, hκ', hY⟩ := h.turn K hk (g := g) (g' := g') (ops := MemOp.ofEvents k g.frame.fn g.frame.place #[]) (κ k) (f (W.at d)) (fun op hop => by obtain ⟨e, _, rfl⟩ := Go.Conc.mem_ofEvents hop; rfl) (h.hist.quiet hk rfl rfl (fun e => absurd e k0) (fun op hop => by obtain ⟨e, _, rfl⟩ := Go.Conc.mem_ofEvents hop; rfl) (fun op hop => by rw [ofEvents_none] at hop; cases hop.1) (fun op hop => by rw [ofEvents_none] at hop; cases hop.1)) hO (fun i _ => ⟨hR i, h.j, jd⟩) (fun _ _ => rfl) (back _ _ _ _ hw') jd rfl (fun e => absurd e k0) (fun q => by rw [Dn]; exact h.deaf k hk q) (fun q e => by rw [e] at nq; cases nq) rfl (fun f e => absurd e (npk f)) (fun f e => absurd e (ntr f))
    (fun κ' hw' _ => h.mode.stays k0 hw' rfl rfl rfl .rfl rfl)
  have same : upd κ k (κ k) = κ := by
    funext i
    by_cases e : i = k
    · rw [e, upd_same]
    · exact upd_ne _ _ e
  refine ⟨_, _, sl, _, κ', upd T k (f (W.at d)), _, hrun, ?_, hY⟩
  have : yphi Y κ' = yphi Y κ := by rw [hwk.phi, same]
  rw [this]
  exact .right _ (.left _ _ ⟨k, hk, by rw [upd_same, hT]; exact ⟨_, W.at d, rfl, rfl⟩, fun j hj => upd_ne _ _ hj⟩)
end step
end Go.Proofs.YtmbfdhekplnoaaaDoor

namespace Go.Proofs.YtmbfdhekplnoaaaDoor
open Go Go.Conc
open Go.ConcN (sumTo upd sumTo_upd upd_ne upd_same sumTo_congr le_sumTo)
open Go.ConcR (KK WgAt stA smA rd wr mk)

section moves
variable {Y : Yard} {gs : Array Goroutine} {W W' : World} {t : Trace} {κ κ' : Nat → YTag} {T : Nat → WT} {Own : Nat → Nat → Prop} {k : Nat} {τ : YTag}
theorem sy_cell (K : Y.Known) {a : Addr} {v : Value} (ha : a.block = Y.Wg) (d : Nat) : SyOnly Y.F.Sy W ((W.at d).setCell a v) ∧ ∀ b, Y.F.Sy b → b ≠ Y.Wg → ((W.at d).setCell a v).heap[b]? = W.heap[b]? :=
  ⟨(SyOnly.at _ W d).trans (SyOnly.setCell (by rw [ha]; exact K.syw)), fun b _ hb => RowKit.Below.heap_setCell (W.at d) a v b (fun e => hb (by first | exact e.symm.trans ha | exact e.trans ha))⟩
theorem sy_at (W : World) (d : Nat) : SyOnly Y.F.Sy W (W.at d) ∧ ∀ b, Y.F.Sy b → b ≠ Y.Wg → (W.at d).heap[b]? = W.heap[b]? := ⟨SyOnly.at _ W d, fun _ _ _ => rfl⟩
theorem ev_mk {Sy : Nat → Prop} {i : Nat} {m : Mark} (h : EvS Sy i (mk m)) : ∀ e ∈ #[mk m], EvS Sy i e := fun e he => by rw [Array.mem_singleton.1 he]; exact h
theorem ev_rd (K : Y.Known) (i : Nat) : ∀ e ∈ #[rd (stA Y.Wg)], EvS Y.F.Sy i e := fun e he => by rw [Array.mem_singleton.1 he]; exact ⟨rfl, K.syw⟩
theorem ev_wr (K : Y.Known) (i : Nat) : ∀ e ∈ #[wr (stA Y.Wg)], EvS Y.F.Sy i e := fun e he => by rw [Array.mem_singleton.1 he]; exact ⟨rfl, K.syw⟩
theorem ev_rw (K : Y.Known) (i : Nat) : ∀ e ∈ #[rd (stA Y.Wg), wr (stA Y.Wg)], EvS Y.F.Sy i e := fun e he => by
  simp at he
  rcases he with rfl | rfl <;> exact ⟨rfl, K.syw⟩
theorem ev_sem (K : Y.Known) (i : Nat) : ∀ e ∈ semEvents (smA Y.Wg), EvS Y.F.Sy i e := fun e he => by
  simp [semEvents] at he
  rcases he with rfl | rfl | rfl | rfl
  · trivial
  · exact ⟨rfl, K.syw⟩
  · exact ⟨rfl, K.syw⟩
  · trivial
theorem one_op (k : Nat) (fn : FuncId) (pos : String) (e : Event) : MemOp.ofEvents k fn pos #[e] = #[{ g := k, fn := fn, pos := pos, act := .ofEvent e }] := by rw [ofEvents_eq]; simp
theorem YardAt.hsay (K : Y.Known) (h : YardAt Y gs W t κ T Own) (hk : k < Y.F.N + 1) (k0 : k ≠ 0) (hκ : κ k = .d0) (fn : FuncId) (pos : String) : Hist Y (upd κ k .k1) (t ++ MemOp.ofEvents k fn pos #[Go.ConcR.mk (.releaseMerge (stA Y.Wg))]) := by
  have nq : (κ k).quits = false := by rw [hκ]; rfl
  rw [one_op]
  refine h.hist.say hk k0 (h.noret hk k0 nq) nq rfl ?_ rfl (by rw [K.ga]; rfl)
  have := h.deaf k hk nq
  rw [hκ] at this
  exact this
theorem YardAt.hmark (h : YardAt Y gs W t κ T Own) (hk : k < Y.F.N + 1) (k0 : k ≠ 0) (hκ : κ k = .k1) (fn : FuncId) (pos : String) : Hist Y (upd κ k .d1) (t ++ MemOp.ofEvents k fn pos #[Go.ConcR.mk .disable]) := by
  have nq : (κ k).quits = false := by rw [hκ]; rfl
  exact h.hist.deaf k0 (h.noret hk k0 nq) (by rw [hκ]; rfl) nq rfl (h.hist.told.mark hk (.inl rfl))
theorem YardAt.hdeaf (h : YardAt Y gs W t κ T Own) (hk : k < Y.F.N + 1) (k0 : k ≠ 0) (nq : (κ k).quits = false) (nt : (κ k).told = true) (hd : (κ k).deaf = 1) (ht : τ.told = true) {es : Array Event} (hes : ∀ e ∈ es, ∃ b w, e = ⟨.cell b, w, true⟩) (fn : FuncId) (pos : String) : Hist Y (upd κ k τ) (t ++ MemOp.ofEvents k fn pos es) :=
  h.hist.deaf k0 (h.noret hk k0 nq) nt nq ht (h.hist.told.unheard hk (h.hist.old hk nq) (by rw [h.deaf k hk nq, hd]; decide) hes)
theorem cells_rw (a : Addr) : (∀ e ∈ #[rd a], ∃ b w, e = (⟨.cell b, w, true⟩ : Event)) ∧ (∀ e ∈ #[wr a], ∃ b w, e = (⟨.cell b, w, true⟩ : Event)) ∧ (∀ e ∈ #[rd a, wr a], ∃ b w, e = (⟨.cell b, w, true⟩ : Event)) :=
  ⟨fun e he => by rw [Array.mem_singleton.1 he]; exact ⟨a, false, rfl⟩, fun e he => by rw [Array.mem_singleton.1 he]; exact ⟨a, true, rfl⟩, fun e he => by
    simp at he
    rcases he with rfl | rfl
    · exact ⟨a, false, rfl⟩
    · exact ⟨a, true, rfl⟩⟩
theorem k_false (k0 : k ≠ 0) : (k == 0) = false := by rw [beq_eq_false_iff_ne]; exact k0
theorem YV_pos (hk : k < Y.F.N + 1) (hc : (κ k).cnt = 1) : 1 ≤ YV Y κ := by
  have := le_sumTo (f := fun k => (κ k).cnt) hk
  unfold YV
  simp only [hc] at this
  exact this
theorem quit_of {q : YTag} (hm : q.main = false) (hc : q.cnt = 0) (hl : q.last = false) : q.quits = true := by cases q <;> first | rfl | (cases hm; done) | (cases hc; done) | (cases hl; done)
theorem YV_le (h : YardAt Y gs W t κ T Own) : YV Y κ ≤ Y.F.crew := sumTo_mono fun i hi => by
  by_cases i0 : i = 0
  · have z := h.zero
    rw [i0]
    cases q : κ 0 <;> rw [q] at z <;> first | (cases z; done) | exact Nat.zero_le _
  · rw [if_neg i0]
    cases hq : Y.F.Q i with
    | true =>
      have := h.hist.oldq i hi hq
      cases q : κ i <;> rw [q] at this <;> first | (cases this; done) | exact Nat.zero_le _
    | false => rw [if_neg (by simp)]; cases κ i <;> simp [YTag.cnt]
theorem YardAt.r0 (K : Y.Known) (h : YardAt Y gs W t κ T Own) (hk : k < Y.F.N + 1) (k0 : k ≠ 0) (hκ : κ k = .d0) {g : Goroutine} (hg : gs[k]? = some g) (hst : YR0 Y (Own k) g W) (d : Nat) (sl : Option (Nat × Nat)) : YNext Y (runT Y.F.P (crowd gs (W.at d) sl) k) t κ T := by
  obtain ⟨_, hst⟩ := hst
  obtain ⟨g', hs, hg'⟩ := hst d
  obtain ⟨T1, hT1⟩ := hg'
  have D := h.deaf k hk (by rw [hκ]; rfl)
  rw [hκ] at D
  refine h.sync K hk (h.hsay K hk k0 hκ _ _) (by rw [hκ]; rfl) hg d sl (by rw [k_false k0]; exact hs) (sy_at W d).1 (ev_mk (m := .releaseMerge (stA Y.Wg)) K.syw) (sy_at W d).2 h.mode.group (τ := .k1) ⟨T1, hT1⟩ (fun e => absurd e k0) (fun _ => by rw [D]; rfl) (fun q e => by cases e) (by rw [hκ]; rfl) (fun f e => by cases e)
    (fun κ' hw _ => h.mode.stays k0 hw (by rw [hκ]; rfl) (by rw [hκ]; rfl) (by rw [hκ]; rfl) (by rw [hκ]; exact ⟨fun z => (by cases z), fun z => (by cases z)⟩) rfl) (phi_worker hk k0 (by rw [hκ]; decide) (by rw [hκ]; decide))
theorem YardAt.k1 (K : Y.Known) (h : YardAt Y gs W t κ T Own) (hk : k < Y.F.N + 1) (k0 : k ≠ 0) (hκ : κ k = .k1) {g : Goroutine} (hg : gs[k]? = some g) (hst : YK1 Y (Own k) g W) (d : Nat) (sl : Option (Nat × Nat)) : YNext Y (runT Y.F.P (crowd gs (W.at d) sl) k) t κ T := by
  obtain ⟨_, hst⟩ := hst
  obtain ⟨g', hs, hg'⟩ := hst d
  obtain ⟨T1, hT1⟩ := hg'
  have D := h.deaf k hk (by rw [hκ]; rfl)
  rw [hκ] at D
  refine h.sync K hk (h.hmark hk k0 hκ _ _) (by rw [hκ]; rfl) hg d sl (by rw [k_false k0]; exact hs) (sy_at W d).1 (ev_mk (m := .disable) trivial) (sy_at W d).2 h.mode.group (τ := .d1) ⟨T1, hT1⟩ (fun e => absurd e k0) (fun _ => by rw [D]; rfl) (fun q e => by cases e) (by rw [hκ]; rfl) (fun f e => by cases e)
    (fun κ' hw _ => h.mode.stays k0 hw (by rw [hκ]; rfl) (by rw [hκ]; rfl) (by rw [hκ]; rfl) (by rw [hκ]; exact ⟨fun z => (by cases z), fun z => (by cases z)⟩) rfl) (phi_worker hk k0 (by rw [hκ]; decide) (by rw [hκ]; decide))
theorem Mode.counted (h : YardAt Y gs W t κ T Own) (hk : k < Y.F.N + 1) (k0 : k ≠ 0) (hc : (κ k).cnt = 1) :
    ((κ 0).opn = true ∧ NoLast Y κ ∧ (∀ vs, κ 0 = .w2 vs → YV Y κ ≤ vs ∧ 1 ≤ vs) ∧ Y.At W ((YV Y κ : Nat) * KK) 0) ∨ ((κ 0).reg = true ∧ NoLast Y κ ∧ 1 ≤ YV Y κ ∧ Y.At W ((YV Y κ : Nat) * KK + 1) 0) := by
  have nq : (κ k).quits = false := by cases q : κ k <;> rw [q] at hc <;> first | rfl | (cases hc; done)
  have nl : (κ k).last = false := by cases q : κ k <;> rw [q] at hc <;> first | rfl | (cases hc; done)
  rcases h.mode with m | m | ⟨_, L, _, _, l3, l4, _⟩ | ⟨_, m, _⟩ | ⟨_, m, _⟩
  · exact .inl m
  · exact .inr m
  · by_cases e : k = L
    · rw [e, l3] at nl; cases nl
    · have := l4 k (by omega) hk e; rw [nq] at this; cases this
  · have := m k (by omega) hk; rw [nq] at this; cases this
  · have := m k (by omega) hk; rw [nq] at this; cases this
theorem YardAt.add (K : Y.Known) (h : YardAt Y gs W t κ T Own) (hk : k < Y.F.N + 1) (k0 : k ≠ 0) (hκ : κ k = .d1) {g : Goroutine} (hg : gs[k]? = some g) (hst : YD1 Y (Own k) g W) (d : Nat) (sl : Option (Nat × Nat)) : YNext Y (runT Y.F.P (crowd gs (W.at d) sl) k) t κ T := by
  obtain ⟨_, hst⟩ := hst
  have D := h.deaf k hk (by rw [hκ]; rfl)
  rw [hκ] at D
  have hpos := YV_pos (Y := Y) (κ := κ) hk (by rw [hκ]; rfl)
  have hle := YV_le h
  have few := K.few
  obtain ⟨v, hv⟩ : ∃ v, YV Y κ = v + 1 := ⟨YV Y κ - 1, by omega⟩
  -- the state ahead of it: with wt, whether the starter waits
  have core : ∀ wt : Nat, wt ≤ 1 → Y.At W ((YV Y κ : Nat) * KK + wt) 0 → ((wt = 0 ∧ (κ 0).opn = true ∧ ∀ vs, κ 0 = .w2 vs → YV Y κ ≤ vs ∧ 1 ≤ vs) ∨ (wt = 1 ∧ (κ 0).reg = true)) → NoLast Y κ → YNext Y (runT Y.F.P (crowd gs (W.at d) sl) k) t κ T := by
    intro wt hwt hat hmd hnl
    have hat' : Y.At W ((v + 1 : Nat) * KK + wt) 0 := by rw [hv] at hat; exact hat
    obtain ⟨g', hs, hlast, hquit⟩ := hst d v wt hwt (by omega) hat'
    have grp : Y.At ((W.at d).setCell (stA Y.Wg) (.int .u64 (v * KK + wt))) (v * KK + wt) 0 := Go.ConcR.WgAt.setSt (w := W.at d) hat' _
    have sc := sy_cell (W := W) K (a := stA Y.Wg) (v := .int .u64 (v * KK + wt)) rfl d
    generalize (W.at d).setCell (stA Y.Wg) (.int .u64 (v * KK + wt)) = W2 at hs hlast grp sc
    by_cases hl : v = 0 ∧ wt = 1
    · -- the last one, and the starter waits
      obtain ⟨T1, hT1⟩ := hlast hl
      obtain ⟨rfl, rfl⟩ := hl
      have hreg : (κ 0).reg = true := hmd.elim (fun q => by omega) And.right
      refine h.sync K hk (h.hdeaf hk k0 (by rw [hκ]; rfl) (by rw [hκ]; rfl) (by rw [hκ]; rfl) rfl (cells_rw _).2.2 _ _) (by rw [hκ]; rfl) hg d sl (by rw [k_false k0]; exact hs) sc.1 (ev_rw K k) sc.2 ⟨_, _, grp⟩ (τ := .d2) ⟨T1, hT1⟩ (fun e => absurd e k0) (fun _ => by rw [D]; rfl) (fun q e => by cases e) (by rw [hκ]; rfl) (fun f e => by cases e) (fun κ' hw _ => ?_) (phi_worker hk k0 (by rw [hκ]; decide) (by rw [hκ]; decide))
      have V' : YV Y (upd κ k .d2) + 1 = YV Y κ + 0 := by have := YV_upd (Y := Y) (κ := κ) (τ := .d2) hk; rw [hκ] at this; exact this
      refine .inr (.inr (.inl ⟨?_, k, by omega, hk, by rw [hw.at_]; rfl, fun l l1 hl lk => ?_, fun e => (by rw [hw.at_] at e; cases e), fun _ => ?_⟩))
      · rcases hw.oth 0 k0.symm with q | ⟨_, _, q⟩
        · rw [q]; exact hreg
        · rw [q]; rfl
      · obtain ⟨_, _, _, e, _⟩ := hw.like l
        rw [e, upd_ne _ _ lk]
        refine quit_of (h.oth l l1) ?_ (hnl l hl)
        have := le_sumTo (f := fun i => (upd κ k .d2 i).cnt) hl
        have e0 : YV Y (upd κ k .d2) = 0 := by omega
        unfold YV at e0
        rw [e0] at this
        have z : (upd κ k .d2 l).cnt = 0 := Nat.le_zero.1 this
        rwa [upd_ne _ _ lk] at z
      · have : ((0 : Nat) : Int) * KK + ((1 : Nat) : Int) = 1 := by simp
        rw [this] at grp
        exact grp
    · obtain ⟨q, hq⟩ := hquit hl
      have V' : YV Y (upd κ k (.quit q)) = v := by have := YV_upd (Y := Y) (κ := κ) (τ := .quit q) hk; rw [hκ] at this; have : YV Y (upd κ k (.quit q)) + 1 = YV Y κ + 0 := this; omega
      refine h.sync K hk (h.hdeaf hk k0 (by rw [hκ]; rfl) (by rw [hκ]; rfl) (by rw [hκ]; rfl) rfl (cells_rw _).2.2 _ _) (by rw [hκ]; rfl) hg d sl (by rw [k_false k0]; exact hs) sc.1 (ev_rw K k) sc.2 ⟨_, _, grp⟩ (τ := .quit q) ⟨WT.chain q, rfl, _, hq⟩ (fun e => absurd e k0) (fun e => by cases e) (fun q' e => by cases e; rw [D]; exact hq) (by rw [hκ]; rfl) (fun f e => by cases e) (fun κ' hw _ => ?_) (phi_worker hk k0 (by rw [hκ]; exact Nat.zero_lt_of_lt (show 4 < 5 by decide)) (by rw [hκ]; exact Nat.zero_le _))
      have nl' : NoLast Y κ' := fun l hl => by
        obtain ⟨_, _, e, _⟩ := hw.like l
        rw [e]
        by_cases lk : l = k
        · rw [lk, upd_same]; rfl
        · rw [upd_ne _ _ lk]; exact hnl l hl
      have hV : YV Y κ' = v := hw.V.trans V'
      rcases hmd with ⟨rfl, ho, h2⟩ | ⟨rfl, hr⟩
      · have e0 : κ' 0 = κ 0 := (hw.oth 0 k0.symm).elim id fun z => by rw [z.2.1] at ho; cases ho
        refine .inl ⟨by rw [e0]; exact ho, nl', fun vs e => ?_, ?_⟩
        · have := h2 vs (e0 ▸ e); omega
        · rw [hV]; have z : (v : Int) * KK + ((0 : Nat) : Int) = v * KK := by simp
          rw [z] at grp; exact grp
      · refine .inr (.inl ⟨?_, nl', by omega, by rw [hV]; exact grp⟩)
        rcases hw.oth 0 k0.symm with z | ⟨_, _, z⟩
        · rw [z]; exact hr
        · rw [z]; rfl
  rcases Mode.counted h hk k0 (by rw [hκ]; rfl) with ⟨a, b, c, e⟩ | ⟨a, b, _, e⟩
  · have z : ((YV Y κ : Nat) : Int) * KK + ((0 : Nat) : Int) = (YV Y κ : Nat) * KK := Int.add_zero _
    exact core 0 (by omega) (by rw [z]; exact e) (.inl ⟨rfl, a, c⟩) b
  · exact core 1 (by omega) e (.inr ⟨rfl, a⟩) b
end moves
end Go.Proofs.YtmbfdhekplnoaaaDoor
