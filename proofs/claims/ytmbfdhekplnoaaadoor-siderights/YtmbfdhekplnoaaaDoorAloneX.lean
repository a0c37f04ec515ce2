/-
  HIRING: the starter adds one to the group and starts a worker, again and again, while those that were started already ask for a number; then the farm begins.
  HIRING: whoever moves, the invariant is kept and the measure falls, till the last one is started.
  ALONE: one goroutine walks, all others only leave: its walk is carried out on whatever tape; at its return the run ends well.
-/
import Derived.Test.YtmbfdhekplnoaaaDoorComesX
import Derived.Conc.Beside
namespace Go.Proofs.YtmbfdhekplnoaaaDoor
open Go Go.Conc
open Go.ConcN (sumTo upd sumTo_upd upd_ne upd_same sumTo_congr sumTo_le)
open Go.ConcR (KK WgAt stA smA rd wr mk)

section stops
variable (Y : Yard)
def HGo (Nx : Stp) : Stp := fun O g W => g.status = .running ∧ ∀ d, ∃ g' ch X, stepG Y.F.P true g (W.at d) = .spawn g' ch (W.at d) #[] ∧ (∀ x, X x → O x) ∧ ch.status = .running ∧
  GoesJ Y.F.P false Y.F.J Y.F.Sh (KRecv Y.F Y.F.M) X ch (W.at d) ∧ Y.mn Nx (fun x => O x ∧ ¬ X x) g' (W.at d)
def HEn (Nx : Stp) : Stp := fun O g W => g.status = .running ∧ ∀ d, ∃ g', stepG Y.F.P true g (W.at d) = .go g' (W.at d) #[mk .enable] ∧ Y.mn (HGo Y Nx) O g' (W.at d)
def HRd (Nx : Stp) : Stp := fun O g W => g.status = .running ∧ ∀ d, ∃ g', stepG Y.F.P true g (W.at d) = .go g' (W.at d) #[mk (.read (smA Y.Wg))] ∧ Y.mn (HEn Y Nx) O g' (W.at d)
def HAdd (s : Nat) (Nx : Stp) : Stp := fun O g W => g.status = .running ∧ ∀ d, Y.At W ((s : Nat) * KK) 0 →
  ∃ g', stepG Y.F.P true g (W.at d) = .go g' ((W.at d).setCell (stA Y.Wg) (.int .u64 ((s + 1 : Nat) * KK))) #[rd (stA Y.Wg), wr (stA Y.Wg)] ∧
    (s = 0 → Y.mn (HRd Y Nx) O g' ((W.at d).setCell (stA Y.Wg) (.int .u64 ((s + 1 : Nat) * KK)))) ∧ (s ≠ 0 → Y.mn (HEn Y Nx) O g' ((W.at d).setCell (stA Y.Wg) (.int .u64 ((s + 1 : Nat) * KK))))
def HDis (s : Nat) (Nx : Stp) : Stp := fun O g W => g.status = .running ∧ ∀ d, ∃ g', stepG Y.F.P true g (W.at d) = .go g' (W.at d) #[mk .disable] ∧ Y.mn (HAdd Y s Nx) O g' (W.at d)
def HNx : Nat → Nat → Stp
  | 0, _ => MSel Y.F (Y.F.M + Y.F.M) 0 []
  | c + 1, s => HDis Y s (HNx c (s + 1))
inductive HTag
  | dis (s c : Nat) | add (s c : Nat) | rd (c : Nat) | en (s c : Nat) | go (s c : Nat)
def HTag.c : HTag → Nat
  | .dis _ c | .add _ c | .rd c | .en _ c | .go _ c => c
def HTag.s : HTag → Nat
  | .dis s _ | .add s _ | .en s _ | .go s _ => s
  | .rd _ => 0
def HTag.count : HTag → Nat
  | .dis s _ | .add s _ => s
  | .en s _ | .go s _ => s + 1
  | .rd _ => 1
def HTag.deaf : HTag → Nat
  | .add _ _ | .rd _ | .en _ _ => 1
  | _ => 0
def HTag.rank : HTag → Nat
  | .dis _ c => 5 * c + 4
  | .add _ c => 5 * c + 3
  | .rd c => 5 * c + 2
  | .en _ c => 5 * c + 1
  | .go _ c => 5 * c
def HStp : HTag → Stp
  | .dis s c => HDis Y s (HNx Y c (s + 1))
  | .add s c => HAdd Y s (HNx Y c (s + 1))
  | .rd c => HRd Y (HNx Y c 1)
  | .en s c => HEn Y (HNx Y c (s + 1))
  | .go s c => HGo Y (HNx Y c (s + 1))
theorem HStp.run {τ : HTag} {O : Nat → Prop} {g : Goroutine} {W : World} (h : HStp Y τ O g W) : g.status = .running := by cases τ <;> exact h.1
end stops
structure HireAt (Y : Yard) (gs : Array Goroutine) (W : World) (t : Trace) (κ : Nat → KTag) (τ : HTag) (T : Nat → WT) (Own : Nat → Nat → Prop) : Prop where
  size : gs.size + τ.c = Y.F.N
  pos : 0 < gs.size
  own : Owners t (fun k => k < gs.size ∧ Y.F.Q k = false) W.heap.size Own Y.F.Sh Y.F.Sy
  told : Told Y.F.ga gs.size (fun k => Y.F.Q k = true) (fun _ => False) t
  deaf0 : Deaf t 0 = τ.deaf
  deaf : ∀ k, 1 ≤ k → k < gs.size → (κ k).quits = false → Deaf t k = 0
  above : ∀ k, gs.size ≤ k → Deaf t k = 0
  left : ∀ k q g, 1 ≤ k → k < gs.size → κ k = .quit q → gs[k]? = some g → QuitsD Y.F.P q (Deaf t k) g
  cn : ∃ s tm, W.heap[Y.F.cn]? = some (.chan 0 #[] false s s tm)
  cb : ∃ s tm, W.heap[Y.F.cb]? = some (.chan 0 #[] false s s tm)
  j : Y.F.J W
  group : Y.At W ((τ.count : Nat) * KK) 0
  cnt : τ.s + τ.c + 1 = Y.F.crew
  who : ∀ k, 1 ≤ k → k < gs.size → (κ k).quits = Y.F.Q k
  q0 : Y.F.Q 0 = false
  bare : ∀ k, gs.size ≤ k → ∀ b, ¬ Own k b
  new : ∀ k, gs.size ≤ k → k < Y.F.N + 1 → Y.F.Q k = false
  kind : ∀ k, 1 ≤ k → k < gs.size → (∃ q, κ k = .quit q) ∨ κ k = .walkR Y.F.M ∨ κ k = .parkR Y.F.M
  at_ : ∀ k, 1 ≤ k → k < gs.size → ∃ g, gs[k]? = some g ∧ At Y.F 0 0 [] (T k) (Own k) g W (κ k)
  zero : ∃ g, gs[0]? = some g ∧ WalksJ Y.F.P true Y.F.J Y.F.Sh (HStp Y τ) (T 0) (Own 0) g W
def hcount (N : Nat) (κ : Nat → KTag) (τ : HTag) : Nat := (τ.rank + 1) * (N + 2) + sumTo (N + 1) fun k => (κ k).up
theorem hcount_lt {N : Nat} {κ κ' : Nat → KTag} {τ τ' : HTag} (h : τ'.rank < τ.rank) : hcount N κ' τ' < hcount N κ τ := by
  unfold hcount
  have : sumTo (N + 1) (fun k => (κ' k).up) ≤ 1 * (N + 1) := sumTo_le fun i _ => up_le _
  have h2 := Nat.mul_le_mul_right (N + 2) (show τ'.rank + 1 + 1 ≤ τ.rank + 1 by omega)
  rw [Nat.add_mul (τ'.rank + 1)] at h2
  omega
section hire
variable {Y : Yard} {gs : Array Goroutine} {W W' : World} {t : Trace} {κ : Nat → KTag} {τ τ' : HTag} {T : Nat → WT} {Own Own' : Nat → Nat → Prop}
theorem HireAt.act (h : HireAt Y gs W t κ τ T Own) {k : Nat} (k1 : 1 ≤ k) (hk : k < gs.size) (nq : (κ k).quits = false) : k < gs.size ∧ Y.F.Q k = false := ⟨hk, by rw [← h.who k k1 hk]; exact nq⟩
def HNext (Y : Yard) (x : Stepped × Array MemOp) (t : Trace) (κ : Nat → KTag) (τ : HTag) (T : Nat → WT) : Prop :=
  (∃ gs' W' sl' ops κ' τ' T' Own', x = (.next (crowd gs' W' sl'), ops) ∧ LtC (Y.F.N + 1) (hcount Y.F.N κ' τ', T') (hcount Y.F.N κ τ, T) ∧ HireAt Y gs' W' (t ++ ops) κ' τ' T' Own') ∨
  (∃ gs' W' sl' ops κ' T' Own', x = (.next (crowd gs' W' sl'), ops) ∧ FarmAt Y.F gs' W' (t ++ ops) κ' T' Own' (Y.F.M + Y.F.M) 0 [])
theorem close_run (K : Y.Known) : ∀ ds O g W, Y.F.Close ds O g W → g.status = .running := fun ds O g W q => (K.close ds O g W q).1
theorem HireAt.runs (h : HireAt Y gs W t κ τ T Own) (K : Y.Known) : (∀ g ∈ gs, awake g) ∧ ∃ (i : Nat) (g : Goroutine), gs[i]? = some g ∧ g.status = .running := by
  obtain ⟨g0, hg0, hw0⟩ := h.zero
  have r0 : g0.status = .running := by
    cases hT : T 0 with
    | stop => rw [hT] at hw0; exact HStp.run Y (hw0 W (RelyJ.refl _ _ h.j))
    | step f => rw [hT] at hw0; exact hw0.1
  refine ⟨fun g hg => ?_, 0, g0, hg0, r0⟩
  obtain ⟨k, hlt, e⟩ := Array.mem_iff_getElem.1 hg
  have hgk : gs[k]? = some g := by rw [← e]; exact Array.getElem?_eq_getElem hlt
  by_cases k0 : k = 0
  · subst k0
    have : g0 = g := Option.some.inj (hg0.symm.trans hgk)
    subst this
    exact awake_of (.inl r0)
  · obtain ⟨g', hg', ha⟩ := h.at_ k (by omega) hlt
    have : g' = g := Option.some.inj (hg'.symm.trans hgk)
    subst this
    have st := ha.status h.j (close_run K)
    intro s q
    rcases h.kind k (by omega) hlt with ⟨q', e⟩ | e | e <;> rw [e] at st
    · rcases st.2.2 rfl with z | z <;> (rw [z] at q; cases q)
    · rw [st.1 rfl] at q; cases q
    · rw [st.2.1 rfl] at q; cases q
theorem HireAt.nosend (h : HireAt Y gs W t κ τ T Own) (K : Y.Known) {j kj : Nat} {gj : Goroutine} {cs : Array CommCase} {sh : CommShape} {cj : CommCase} {v : Value} (hj : gs[j]? = some gj) (hs : gj.status = .blocked) (ho : gj.offers = some (cs, sh)) (hk : cs[kj]? = some cj) (hv : cj.send = some v) : False := by
  have hlt : j < gs.size := (Array.getElem?_eq_some_iff.1 hj).1
  by_cases j0 : j = 0
  · subst j0
    obtain ⟨g0, hg0, hw0⟩ := h.zero
    have : g0 = gj := Option.some.inj (hg0.symm.trans hj)
    subst this
    have r0 : g0.status = .running := by
      cases hT : T 0 with
      | stop => rw [hT] at hw0; exact HStp.run Y (hw0 W (RelyJ.refl _ _ h.j))
      | step f => rw [hT] at hw0; exact hw0.1
    rw [r0] at hs; cases hs
  · obtain ⟨g, hg, ha⟩ := h.at_ j (by omega) hlt
    have : g = gj := Option.some.inj (hg.symm.trans hj)
    subst this
    have st := ha.status h.j (close_run K)
    rcases h.kind j (by omega) hlt with ⟨q', e⟩ | e | e <;> rw [e] at st ha
    · rcases st.2.2 rfl with z | z <;> (rw [z] at hs; cases hs)
    · rw [st.1 rfl] at hs; cases hs
    · obtain ⟨g₂, z, sh', rfl, _⟩ := ha
      cases ho
      match kj, hk with
      | 0, hk => cases hk; cases hv
theorem HireAt.worker (h : HireAt Y gs W t κ τ T Own) (K : Y.Known) {k : Nat} (k1 : 1 ≤ k) (hk : k < gs.size) {gs' : Array Goroutine} {g' : Goroutine} {u : Trace} (tag : KTag) (T1 : WT) (hsz : gs'.size = gs.size) (hg' : gs'[k]? = some g') (hoth : ∀ i, i ≠ k → i < gs.size → gs'[i]? = gs[i]?)
    (own' : Owners (t ++ u) (fun k => k < gs.size ∧ Y.F.Q k = false) W'.heap.size Own' Y.F.Sh Y.F.Sy) (told' : Told Y.F.ga gs.size (fun k => Y.F.Q k = true) (fun _ => False) (t ++ u)) (hd : ∀ l, l ≠ k → Deaf (t ++ u) l = Deaf t l) (hdk : tag.quits = false → Deaf (t ++ u) k = 0) (hlk : ∀ q, tag = .quit q → QuitsD Y.F.P q (Deaf (t ++ u) k) g')
    (hSy : ∀ b, Y.F.Sy b → W'.heap[b]? = W.heap[b]?) (rel : ∀ i, i ≠ k → RelyJ Y.F.J (Own i) Y.F.Sh W W') (ownO : ∀ i, i ≠ k → Own' i = Own i) (hq : tag.quits = (κ k).quits) (hkind : (∃ q, tag = .quit q) ∨ tag = .walkR Y.F.M ∨ tag = .parkR Y.F.M) (hat : At Y.F 0 0 [] T1 (Own' k) g' W' tag) :
    HireAt Y gs' W' (t ++ u) (upd κ k tag) τ (upd T k T1) Own' := by
  have k0 : (0 : Nat) ≠ k := by omega
  exact
    { size := by rw [hsz]; exact h.size
      pos := by rw [hsz]; exact h.pos
      own := by rw [hsz]; exact own'
      told := by rw [hsz]; exact told'
      deaf0 := by rw [hd 0 k0]; exact h.deaf0
      deaf := fun l l1 hl q => by
        rw [hsz] at hl
        by_cases e : l = k
        · rw [e, upd_same] at q; rw [e]; exact hdk q
        · rw [upd_ne _ _ e] at q; rw [hd l e]; exact h.deaf l l1 hl q
      above := fun l hl => by rw [hsz] at hl; rw [hd l (by omega)]; exact h.above l hl
      left := fun l q g l1 hl e hg => by
        rw [hsz] at hl
        by_cases lk : l = k
        · subst lk
          rw [upd_same] at e
          rw [hg'] at hg
          cases hg
          exact hlk q e
        · rw [upd_ne _ _ lk] at e
          rw [hoth l lk hl] at hg
          rw [hd l lk]
          exact h.left l q g l1 hl e hg
      cn := h.cn.imp fun s => .imp fun tm q => (hSy _ K.f.syn).trans q
      cb := h.cb.imp fun s => .imp fun tm q => (hSy _ K.f.syb).trans q
      j := K.f.jst _ _ hSy h.j
      group := (hSy _ K.syw).trans h.group
      cnt := h.cnt
      who := fun l l1 hl => by
        rw [hsz] at hl
        by_cases lk : l = k
        · rw [lk, upd_same, hq]; exact h.who k k1 hk
        · rw [upd_ne _ _ lk]; exact h.who l l1 hl
      q0 := h.q0
      bare := fun l hl => by rw [hsz] at hl; rw [ownO l (by omega)]; exact h.bare l hl
      new := fun l hl => by rw [hsz] at hl; exact h.new l hl
      kind := fun l l1 hl => by
        rw [hsz] at hl
        by_cases lk : l = k
        · rw [lk, upd_same]; exact hkind
        · rw [upd_ne _ _ lk]; exact h.kind l l1 hl
      at_ := fun l l1 hl => by
        rw [hsz] at hl
        by_cases lk : l = k
        · rw [lk, upd_same, upd_same]; exact ⟨g', hg', hat⟩
        · obtain ⟨g, hg, ha⟩ := h.at_ l l1 hl
          rw [upd_ne _ _ lk, upd_ne _ _ lk, ownO l lk]
          exact ⟨g, (hoth l lk hl).trans hg, ha.rely K.f (rel l lk)⟩
      zero := by
        obtain ⟨g, hg, hw⟩ := h.zero
        rw [upd_ne _ _ k0, ownO 0 k0]
        exact ⟨g, (hoth 0 k0 h.pos).trans hg, hw.rely (rel 0 k0)⟩ }
theorem HireAt.same (h : HireAt Y gs W t κ τ T Own) (K : Y.Known) {k : Nat} {a a' : Goroutine} (hn : W'.heap[Y.F.cn]? = W.heap[Y.F.cn]?) (hb : W'.heap[Y.F.cb]? = W.heap[Y.F.cb]?) (i : Nat) (ik : i ≠ k) (hi : i < gs.size) : ((gs.map (woken Y.F.P a a' W')).setIfInBounds k a')[i]? = gs[i]? := by
  rw [get_mapset _ _ _ _ ik]
  by_cases i0 : i = 0
  · subst i0
    obtain ⟨g0, hg0, hw0⟩ := h.zero
    rw [hg0]
    have r0 : g0.status = .running := by
      cases hT : T 0 with
      | stop => rw [hT] at hw0; exact HStp.run Y (hw0 W (RelyJ.refl _ _ h.j))
      | step f => rw [hT] at hw0; exact hw0.1
    refine congrArg some ?_
    unfold woken
    split
    · exact again_running _ (.inl r0)
    · rfl
  · obtain ⟨g, hg, ha⟩ := h.at_ i (by omega) hi
    rw [hg]
    exact congrArg some (ha.again h.j (close_run K) (h.cn.imp fun s => .imp fun tm q => hn.trans q) (h.cb.imp fun s => .imp fun tm q => hb.trans q))
theorem HireAt.starter (h : HireAt Y gs W t κ τ T Own) (K : Y.Known) {gs' : Array Goroutine} {g' : Goroutine} {u : Trace} (T1 : WT) (hsz : gs'.size = gs.size) (hg' : gs'[0]? = some g') (hoth : ∀ i, i ≠ 0 → i < gs.size → gs'[i]? = gs[i]?)
    (own' : Owners (t ++ u) (fun k => k < gs.size ∧ Y.F.Q k = false) W'.heap.size Own' Y.F.Sh Y.F.Sy) (told' : Told Y.F.ga gs.size (fun k => Y.F.Q k = true) (fun _ => False) (t ++ u)) (hd : ∀ l, l ≠ 0 → Deaf (t ++ u) l = Deaf t l) (hd0 : Deaf (t ++ u) 0 = τ'.deaf)
    (hn : W'.heap[Y.F.cn]? = W.heap[Y.F.cn]?) (hb : W'.heap[Y.F.cb]? = W.heap[Y.F.cb]?) (hJ : Y.F.J W') (hgr : Y.At W' ((τ'.count : Nat) * KK) 0) (hc : τ'.c = τ.c) (hs : τ'.s = τ.s) (rel : ∀ i, i ≠ 0 → RelyJ Y.F.J (Own i) Y.F.Sh W W') (ownO : ∀ i, i ≠ 0 → Own' i = Own i) (hat : WalksJ Y.F.P true Y.F.J Y.F.Sh (HStp Y τ') T1 (Own' 0) g' W') :
    HireAt Y gs' W' (t ++ u) κ τ' (upd T 0 T1) Own' :=
  { size := by rw [hsz, hc]; exact h.size
    pos := by rw [hsz]; exact h.pos
    own := by rw [hsz]; exact own'
    told := by rw [hsz]; exact told'
    deaf0 := hd0
    deaf := fun l l1 hl q => by rw [hsz] at hl; rw [hd l (by omega)]; exact h.deaf l l1 hl q
    above := fun l hl => by rw [hsz] at hl; have := h.pos; rw [hd l (by omega)]; exact h.above l hl
    left := fun l q g l1 hl e hg => by
      rw [hsz] at hl
      rw [hoth l (by omega) hl] at hg
      rw [hd l (by omega)]
      exact h.left l q g l1 hl e hg
    cn := h.cn.imp fun s => .imp fun tm q => hn.trans q
    cb := h.cb.imp fun s => .imp fun tm q => hb.trans q
    j := hJ
    group := hgr
    cnt := by rw [hc, hs]; exact h.cnt
    who := fun l l1 hl => by rw [hsz] at hl; exact h.who l l1 hl
    q0 := h.q0
    bare := fun l hl => by rw [hsz] at hl; have := h.pos; rw [ownO l (by omega)]; exact h.bare l hl
    new := fun l hl => by rw [hsz] at hl; exact h.new l hl
    kind := fun l l1 hl => by rw [hsz] at hl; exact h.kind l l1 hl
    at_ := fun l l1 hl => by
      rw [hsz] at hl
      obtain ⟨g, hg, ha⟩ := h.at_ l l1 hl
      rw [upd_ne _ _ (by omega), ownO l (by omega)]
      exact ⟨g, (hoth l (by omega) hl).trans hg, ha.rely K.f (rel l (by omega))⟩
    zero := by rw [upd_same]; exact ⟨g', hg', hat⟩ }
end hire
end Go.Proofs.YtmbfdhekplnoaaaDoor

namespace Go.Proofs.YtmbfdhekplnoaaaDoor
open Go Go.Conc
open Go.ConcN (sumTo upd sumTo_upd upd_ne upd_same sumTo_congr sumTo_le)
open Go.ConcR (KK WgAt stA smA rd wr mk)

section hire
variable {Y : Yard} {gs : Array Goroutine} {W W' : World} {t : Trace} {κ : Nat → KTag} {τ τ' : HTag} {T : Nat → WT} {Own Own' : Nat → Nat → Prop}
theorem own_ops {k : Nat} {fn : FuncId} {pos : String} {es : Array Event} : ∀ op ∈ MemOp.ofEvents k fn pos es, op.g = k := fun op hop => by obtain ⟨_, _, rfl⟩ := Go.Conc.mem_ofEvents hop; rfl
theorem HireAt.sync (h : HireAt Y gs W t κ τ T Own) (K : Y.Known) {g g' : Goroutine} {es : Array Event} (hg : gs[0]? = some g) (d : Nat) (sl : Option (Nat × Nat)) (hs : stepG Y.F.P true g (W.at d) = .go g' W' es) (hW : SyOnly Y.F.Sy W W') (hes : ∀ e ∈ es, EvS Y.F.Sy 0 e) (hnr : ∀ e ∈ es, NR (MemAct.ofEvent e))
    (hsy : ∀ b, Y.F.Sy b → b ≠ Y.Wg → W'.heap[b]? = W.heap[b]?) (hgr : Y.At W' ((τ'.count : Nat) * KK) 0) (hat : Y.mn (HStp Y τ') (Own 0) g' W') (hd : deafBehind τ.deaf es = τ'.deaf) (hc : τ'.c = τ.c) (hss : τ'.s = τ.s) (hr : τ'.rank < τ.rank) : HNext Y (runT Y.F.P (crowd gs (W.at d) sl) 0) t κ τ T := by
  obtain ⟨hrun, hO, hR⟩ := crowd_sync (sl := sl) h.own hg d hs hW (.inr ⟨h.pos, h.q0⟩) hes
  obtain ⟨T1, hT1⟩ := hat
  have hJ : Y.F.J W' := K.jg W W' hsy ⟨_, _, hgr⟩ h.j
  have hn : W'.heap[Y.F.cn]? = W.heap[Y.F.cn]? := hsy _ K.f.syn K.wn.symm
  have hb : W'.heap[Y.F.cb]? = W.heap[Y.F.cb]? := hsy _ K.f.syb K.wb.symm
  refine .inl ⟨_, _, sl, _, κ, τ', upd T 0 T1, Own, hrun, .left _ _ (hcount_lt hr), ?_⟩
  refine h.starter K T1 (by simp) (get_mapset_same _ _ _ h.pos) (fun i i0 hi => h.same K hn hb i i0 hi) hO ?_ (fun l hl => Deaf_other t (fun e => hl e.symm) _ own_ops) ?_ hn hb hJ hgr hc hss (fun i _ => ⟨hR i, h.j, hJ⟩) (fun _ _ => rfl) hT1
  · exact h.told.own (fun op hop _ e => by obtain ⟨ev, he, rfl⟩ := Go.Conc.mem_ofEvents hop; exact hnr ev he _ e) own_ops h.pos (by rw [h.q0]; exact fun z => by cases z) id
  · rw [Deaf_own, h.deaf0]; exact hd
theorem HireAt.own0 (h : HireAt Y gs W t κ τ T Own) (K : Y.Known) {g : Goroutine} {f : World → WT} (hg : gs[0]? = some g) (hT : T 0 = .step f) (hw : WalksJ Y.F.P true Y.F.J Y.F.Sh (HStp Y τ) (T 0) (Own 0) g W) (d : Nat) (sl : Option (Nat × Nat)) : HNext Y (runT Y.F.P (crowd gs (W.at d) sl) 0) t κ τ T := by
  rw [hT] at hw
  obtain ⟨O', g', W', es, t1, hsub, hrun, hw', hO', hD, hR, hSy, _, _, _, hev, _⟩ := crowd_ownJ (sl := sl) h.own K.f.jst h.j ⟨h.pos, h.q0⟩ hg hw d
  refine .inl ⟨_, _, sl, _, κ, τ, upd T 0 t1, ownUpd Own 0 O', hrun, .right _ ⟨0, by omega, by rw [upd_same, hT]; exact hsub, fun j hj => upd_ne _ _ hj⟩, ?_⟩
  refine h.starter K t1 (by simp) (get_mapset_same _ _ _ h.pos) (fun i i0 hi => h.same K (hSy _ K.f.syn) (hSy _ K.f.syb) i i0 hi) hO' ?_ (fun l _ => hD l) ((hD 0).trans h.deaf0) (hSy _ K.f.syn) (hSy _ K.f.syb) (K.f.jst _ _ hSy h.j) ((hSy _ K.syw).trans h.group) rfl rfl hR (fun i hi => ownUpd_other Own O' hi) (by rw [ownUpd_same]; exact hw')
  exact h.told.own (fun op hop _ e => by obtain ⟨ev, he, rfl⟩ := Go.Conc.mem_ofEvents hop; exact evG_norel (hev ev he) _ e) own_ops h.pos (by rw [h.q0]; exact fun z => by cases z) id
theorem HireAt.works (h : HireAt Y gs W t κ τ T Own) (K : Y.Known) {k : Nat} (k1 : 1 ≤ k) (hk : k < gs.size) {g : Goroutine} (hg : gs[k]? = some g) (hrun : g.status = .running) (d : Nat) (sl : Option (Nat × Nat)) : HNext Y (runT Y.F.P (crowd gs (W.at d) sl) k) t κ τ T := by
  have k0 : (k == 0) = false := by rw [beq_eq_false_iff_ne]; omega
  have hkN : k < Y.F.N + 1 := by have := h.size; omega
  obtain ⟨g0, hg0, ha⟩ := h.at_ k k1 hk
  have : g0 = g := Option.some.inj (hg0.symm.trans hg)
  subst this
  rcases h.kind k k1 hk with ⟨q, e⟩ | e | e
  · -- it only leaves
    have hq := h.left k q g0 k1 hk e hg
    rw [e] at ha
    obtain ⟨hT, _⟩ := ha
    cases q with
    | zero => rw [hq.1] at hrun; cases hrun
    | succ q =>
      rcases hq with ⟨hf, _⟩ | ⟨_, g', es, hm, hst, hq'⟩
      · rw [hf] at hrun; cases hrun
      have hs : stepG Y.F.P (k == 0) g0 (W.at d) = .go g' (W.at d) es := by rw [k0]; exact hst _
      have ops : ∀ op ∈ MemOp.ofEvents k g0.frame.fn g0.frame.place es, op.g = k ∧ op.act.touch? = none ∧ op.act.low W.heap.size := fun op hop => by
        obtain ⟨ev, he, rfl⟩ := Go.Conc.mem_ofEvents hop
        exact ⟨rfl, touch_mute (hm ev he), low_mute (hm ev he) _⟩
      have cnt : hcount Y.F.N (upd κ k (.quit q)) τ = hcount Y.F.N κ τ := by
        unfold hcount
        congr 1
        refine sumTo_congr fun l _ => ?_
        by_cases z : l = k
        · rw [z, upd_same, e]; rfl
        · rw [upd_ne _ _ z]
      refine .inl ⟨_, _, sl, _, upd κ k (.quit q), τ, upd T k (WT.chain q), Own, runT_crowd_go hg hs, by rw [cnt]; exact .right _ ⟨k, hkN, by rw [upd_same, hT]; exact ⟨_, W, rfl, rfl⟩, fun j hj => upd_ne _ _ hj⟩, ?_⟩
      refine h.worker K k1 hk (.quit q) (WT.chain q) (by simp) (get_mapset_same _ _ _ hk) (fun i ik hi => h.same K rfl rfl i ik hi) (h.own.meet (fun op hop => (ops op hop).1) fun op hop => ⟨(ops op hop).2.2, fun a z => by rw [(ops op hop).2.1] at z; cases z⟩)
        (h.told.mute (fun op hop _ z => by obtain ⟨ev, he, rfl⟩ := Go.Conc.mem_ofEvents hop; exact mute_norel (hm ev he) _ z) (fun op hop => by rw [(ops op hop).1]; exact hk) fun op hop => (ops op hop).2.1) (fun l hl => Deaf_other t (fun z => hl z.symm) _ own_ops) (fun z => by cases z) (fun q' z => by cases z; rw [Deaf_own]; exact hq')
        (fun _ _ => rfl) (fun i _ => ⟨Rely.at _ _ _ _, h.j, K.f.jst W (W.at d) (fun _ _ => rfl) h.j⟩) (fun _ _ => rfl) (by rw [e]; rfl) (.inl ⟨q, rfl⟩) ⟨rfl, _, hq'⟩
  · -- it walks to ask
    rw [e] at ha
    have ha : WalksJ Y.F.P false Y.F.J Y.F.Sh (KRecv Y.F Y.F.M) (T k) (Own k) g0 W := ha
    have nq : (κ k).quits = false := by rw [e]; rfl
    cases hT : T k with
    | step f =>
      rw [hT] at ha
      obtain ⟨O', g', W', es, t1, hsub, hr, hw', hO', hD, hR, hSy, _, _, _, hev, _⟩ := crowd_ownJ (sl := sl) h.own K.f.jst h.j (h.act k1 hk nq) hg (by rw [k0]; exact ha) d
      have cnt : hcount Y.F.N (upd κ k (.walkR Y.F.M)) τ = hcount Y.F.N κ τ := by
        unfold hcount
        congr 1
        refine sumTo_congr fun l _ => ?_
        by_cases z : l = k
        · rw [z, upd_same, e]
        · rw [upd_ne _ _ z]
      refine .inl ⟨_, _, sl, _, upd κ k (.walkR Y.F.M), τ, upd T k t1, ownUpd Own k O', hr, by rw [cnt]; exact .right _ ⟨k, hkN, by rw [upd_same, hT]; exact hsub, fun j hj => upd_ne _ _ hj⟩, ?_⟩
      rw [k0] at hw'
      refine h.worker K k1 hk (.walkR Y.F.M) t1 (by simp) (get_mapset_same _ _ _ hk) (fun i ik hi => h.same K (hSy _ K.f.syn) (hSy _ K.f.syb) i ik hi) hO' ?_ (fun l _ => hD l) (fun _ => (hD k).trans (h.deaf k k1 hk nq)) (fun q z => by cases z) hSy hR (fun i hi => ownUpd_other Own O' hi) (by rw [e]) (.inr (.inl rfl)) (by rw [ownUpd_same]; exact hw')
      exact h.told.own (fun op hop _ z => by obtain ⟨ev, he, rfl⟩ := Go.Conc.mem_ofEvents hop; exact evG_norel (hev ev he) _ z) own_ops hk (by rw [(h.act k1 hk nq).2]; exact fun z => by cases z) id
    | stop =>
      rw [hT] at ha
      obtain ⟨_, g₂, z, sh, hst, hrc⟩ := KRecv.iff.1 (ha W (RelyJ.refl _ _ h.j))
      obtain ⟨s, tm, hc⟩ := h.cn
      have hc' : (W.at d).heap[Y.F.cn]? = some (.chan 0 #[] false s s tm) := hc
      have only : ∀ {k' : Nat} {cc : CommCase}, #[rcase Y.F.cn z][k']? = some cc → k' = 0 ∧ cc = rcase Y.F.cn z := fun {k' cc} e => by
        match k', e with
        | 0, e => exact ⟨rfl, (Option.some.inj e).symm⟩
      have hfit : ∀ cc ∈ #[rcase Y.F.cn z], Fits (W.at d) cc := fun cc hcc' => by
        rw [Array.mem_singleton.1 hcc']
        exact .inr ⟨Y.F.cn, false, s, s, tm, rfl, hc', fun _ => rfl⟩
      have hs' : stepG Y.F.P (k == 0) g0 (W.at d) = .comm g₂ #[rcase Y.F.cn z] true sh (W.at d) #[] := by rw [k0]; exact hst d
      rcases crowd_comm (sl := sl) hg hs' hfit with ⟨hr, _⟩ | ⟨k', cc, _, _, _, _, _, _, _, _, _, _, _, _, _, hk', _, hsv, _⟩ | ⟨_, _, _, _, _, _, _, _, _, _, _, _, _, _, _, _, _, _, _, _, hj, hjs, hjo, hjk, _, hjv, _⟩ | ⟨k', cc, c', s', r', tm', d', hk', hcc', _, hch, _, hr⟩
      · refine .inl ⟨_, _, sl, _, upd κ k (.parkR Y.F.M), τ, upd T k .stop, Own, hr, .left _ _ ?_, ?_⟩
        · unfold hcount
          have := sumTo_upd κ (.parkR Y.F.M) KTag.up hkN
          rw [e] at this
          have : sumTo (Y.F.N + 1) (fun i => (upd κ k (.parkR Y.F.M) i).up) + 1 = sumTo (Y.F.N + 1) (fun i => (κ i).up) + 0 := this
          omega
        · have hD : ∀ l, Deaf (t ++ MemOp.ofEvents k g0.frame.fn g0.frame.place #[]) l = Deaf t l := fun l => by rw [nil_ops]
          refine h.worker K k1 hk (.parkR Y.F.M) .stop (by simp) (Array.getElem?_setIfInBounds_self_of_lt hk) (fun i ik hi => Array.getElem?_setIfInBounds_ne fun z => ik z.symm) (by rw [nil_ops]; exact h.own) (by rw [nil_ops]; exact h.told) (fun l _ => hD l) (fun _ => (hD k).trans (h.deaf k k1 hk nq)) (fun q z => by cases z)
            (fun _ _ => rfl) (fun i _ => ⟨Rely.at _ _ _ _, h.j, K.f.jst W (W.at d) (fun _ _ => rfl) h.j⟩) (fun _ _ => rfl) (by rw [e]; rfl) (.inr (.inr rfl)) ⟨g₂, z, sh, rfl, hrc.rely ⟨Rely.at _ _ _ _, h.j, K.f.jst W _ (fun _ _ => rfl) h.j⟩⟩
      · obtain ⟨_, rfl⟩ := only hk'
        cases hsv
      · exact (h.nosend K hj hjs hjo hjk hjv).elim
      · obtain ⟨rfl, rfl⟩ := only hk'
        cases hcc'
        rw [hc'] at hch
        cases hch
  · have st := ha.status h.j (close_run K)
    rw [e] at st
    rw [st.2.1 rfl] at hrun
    cases hrun
theorem HireAt.spawns (h : HireAt Y gs W t κ τ T Own) (K : Y.Known) (hH : ∀ W, Y.At W ((Y.F.crew : Nat) * KK) 0 → Y.F.Hold W) {s c : Nat} (hτ : τ = .go s c) {g : Goroutine} (hg : gs[0]? = some g) (hst : HGo Y (HNx Y c (s + 1)) (Own 0) g W) (d : Nat) (sl : Option (Nat × Nat)) : HNext Y (runT Y.F.P (crowd gs (W.at d) sl) 0) t κ τ T := by
  subst hτ
  obtain ⟨_, hst⟩ := hst
  obtain ⟨g', ch, X, hs, hX, hch, ⟨Tc, hTc⟩, T1, hT1⟩ := hst d
  have hrun := runT_crowd_spawn (sl := sl) (i := 0) hg (show stepG Y.F.P (0 == 0) g (W.at d) = _ from hs)
  have hrun : runT Y.F.P (crowd gs (W.at d) sl) 0 = (.next (crowd ((gs.setIfInBounds 0 g').push ch) (W.at d) sl), goOps 0 gs.size g.frame.fn g.frame.place ch.frame.fn g.frame.place) := hrun
  have hsz0 := h.size
  have hpos := h.pos
  have hsz : gs.size + c = Y.F.N := hsz0
  have hO := h.own.spawned (fi := g.frame.fn) (pi := g.frame.place) (fc := ch.frame.fn) (pc := g.frame.place) (i := 0) (n := gs.size) ⟨hpos, h.q0⟩ h.deaf0 (h.above gs.size (Nat.le_refl _)) X hX
  have Qn : Y.F.Q gs.size = false := h.new gs.size (Nat.le_refl _) (by omega)
  have eA : (fun l => (l < gs.size ∧ Y.F.Q l = false) ∨ l = gs.size) = fun l => l < gs.size + 1 ∧ Y.F.Q l = false := funext fun l => propext ⟨fun z => z.elim (fun y => ⟨by omega, y.2⟩) fun y => by subst y; exact ⟨by omega, Qn⟩, fun ⟨z1, z2⟩ => by
    rcases Nat.lt_or_ge l gs.size with y | y
    · exact .inl ⟨y, z2⟩
    · exact .inr (by omega)⟩
  rw [eA] at hO
  have o0 : ownGive Own gs.size X 0 = fun b => Own 0 b ∧ ¬ X b := funext fun b => propext (ownGive_other (by omega) b)
  have on : ownGive Own gs.size X gs.size = X := funext fun b => propext ((ownGive_to b).trans ⟨fun z => z.resolve_left (h.bare gs.size (Nat.le_refl _) b), .inr⟩)
  have oo : ∀ k, k ≠ 0 → k ≠ gs.size → ownGive Own gs.size X k = Own k := fun k k0 kn => funext fun b => propext ((ownGive_other kn b).trans ⟨And.left, fun q => ⟨q, fun z => k0 (h.own.apart k 0 b q (hX b z))⟩⟩)
  have hD : ∀ l, Deaf (t ++ goOps 0 gs.size g.frame.fn g.frame.place ch.frame.fn g.frame.place) l = Deaf t l := fun l => Deaf_go l
  have gz : ((gs.setIfInBounds 0 g').push ch)[0]? = some g' := by rw [Array.getElem?_push_lt (by simpa using hpos)]; simp
  have gn : ((gs.setIfInBounds 0 g').push ch)[gs.size]? = some ch := by
    have : (gs.setIfInBounds 0 g').size = gs.size := by simp
    rw [← this]; exact Array.getElem?_push_size
  have go : ∀ k, k ≠ 0 → k < gs.size → ((gs.setIfInBounds 0 g').push ch)[k]? = gs[k]? := fun k k0 hk => by
    have : k < (gs.setIfInBounds 0 g').size := by simpa using hk
    rw [Array.getElem?_push_lt this, ← Array.getElem?_eq_getElem this, Array.getElem?_setIfInBounds_ne fun z => k0 z.symm]
  have szn : ((gs.setIfInBounds 0 g').push ch).size = gs.size + 1 := by simp
  have jd : Y.F.J (W.at d) := K.f.jst W (W.at d) (fun _ _ => rfl) h.j
  have rel : ∀ i, RelyJ Y.F.J (Own i) Y.F.Sh W (W.at d) := fun i => ⟨Rely.at _ _ _ _, h.j, jd⟩
  have told' : Told Y.F.ga (gs.size + 1) (fun k => Y.F.Q k = true) (fun _ => False) (t ++ goOps 0 gs.size g.frame.fn g.frame.place ch.frame.fn g.frame.place) := by
    have b : Told Y.F.ga (gs.size + 1) (fun k => Y.F.Q k = true) (fun _ => False) t := ⟨h.told.norel, h.told.says, h.told.over, fun i l z => Nat.lt_succ_of_lt (h.told.who i l z)⟩
    refine b.mute (fun op hop _ e => ?_) (fun op hop => ?_) fun op hop => ?_ <;> (simp [goOps] at hop)
    · rcases hop with rfl | rfl <;> cases e
    · rcases hop with rfl | rfl
      · show 0 < gs.size + 1; omega
      · show gs.size < gs.size + 1; omega
    · rcases hop with rfl | rfl <;> rfl
  have cnt := h.cnt
  have cnt : s + c + 1 = Y.F.crew := cnt
  have grp : Y.At (W.at d) ((s + 1 : Nat) * KK) 0 := h.group
  cases c with
  | succ c =>
    refine .inl ⟨_, _, sl, _, upd κ gs.size (.walkR Y.F.M), .dis (s + 1) c, upd (upd T gs.size Tc) 0 T1, ownGive Own gs.size X, hrun, .left _ _ (hcount_lt (by simp [HTag.rank]; omega)), ?_⟩
    have kn : ∀ k, k ≠ gs.size → upd κ gs.size (.walkR Y.F.M) k = κ k := fun k hk => upd_ne _ _ hk
    exact
      { size := by rw [szn]; show gs.size + 1 + c = Y.F.N; omega
        pos := by rw [szn]; omega
        own := by rw [szn]; exact hO
        told := by rw [szn]; exact told'
        deaf0 := by rw [hD]; exact h.deaf0
        deaf := fun k k1 hk q => by
          rw [szn] at hk
          rw [hD]
          by_cases e : k = gs.size
          · rw [e]; exact h.above _ (Nat.le_refl _)
          · rw [kn k e] at q; exact h.deaf k k1 (by omega) q
        above := fun k hk => by rw [szn] at hk; rw [hD]; exact h.above k (by omega)
        left := fun k q gk k1 hk e hgk => by
          rw [szn] at hk
          by_cases z : k = gs.size
          · rw [z, upd_same] at e; cases e
          · rw [kn k z] at e
            rw [go k (by omega) (by omega)] at hgk
            rw [hD]
            exact h.left k q gk k1 (by omega) e hgk
        cn := h.cn, cb := h.cb, j := jd, group := grp
        cnt := by show s + 1 + c + 1 = _; omega
        who := fun k k1 hk => by
          rw [szn] at hk
          by_cases z : k = gs.size
          · rw [z, upd_same, Qn]; rfl
          · rw [kn k z]; exact h.who k k1 (by omega)
        q0 := h.q0
        bare := fun k hk b => by rw [szn] at hk; rw [oo k (by omega) (by omega)]; exact h.bare k (by omega) b
        new := fun k hk => by rw [szn] at hk; exact h.new k (by omega)
        kind := fun k k1 hk => by
          rw [szn] at hk
          by_cases z : k = gs.size
          · rw [z, upd_same]; exact .inr (.inl rfl)
          · rw [kn k z]; exact h.kind k k1 (by omega)
        at_ := fun k k1 hk => by
          rw [szn] at hk
          by_cases z : k = gs.size
          · rw [z, upd_same, upd_ne _ _ (by omega), upd_same, on]
            exact ⟨ch, gn, hTc⟩
          · obtain ⟨gk, hgk, ha⟩ := h.at_ k k1 (by omega)
            rw [kn k z, upd_ne _ _ (by omega), upd_ne _ _ z, oo k (by omega) z]
            exact ⟨gk, (go k (by omega) (by omega)).trans hgk, ha.rely K.f (rel k)⟩
        zero := by rw [upd_same, o0]; exact ⟨g', gz, hT1⟩ }
  | zero =>
    have eN : gs.size = Y.F.N := hsz
    have eC : s + 1 = Y.F.crew := by omega
    obtain ⟨κ', hκ'⟩ : ∃ κ' : Nat → KTag, ∀ k, κ' k = if k = 0 then .mwalk else if k < gs.size then κ k else .walkR Y.F.M := ⟨_, fun _ => rfl⟩
    have k0' : κ' 0 = .mwalk := by rw [hκ', if_pos rfl]
    have kn' : ∀ k, gs.size ≤ k → κ' k = .walkR Y.F.M := fun k hk => by rw [hκ', if_neg (by omega), if_neg (by omega)]
    have ko' : ∀ k, k ≠ 0 → k < gs.size → κ' k = κ k := fun k k0 kn => by rw [hκ', if_neg k0, if_pos kn]
    refine .inr ⟨_, _, sl, _, κ', upd (upd T gs.size Tc) 0 T1, ownGive Own gs.size X, hrun, ?_⟩
    have cases_ : ∀ k, k < Y.F.N + 1 → k = 0 ∨ k = gs.size ∨ (1 ≤ k ∧ k < gs.size ∧ k ≠ 0 ∧ k ≠ gs.size) := fun k hk => by omega
    have kd : ∀ k, k < Y.F.N + 1 → κ' k = .mwalk ∨ (∃ q, κ' k = .quit q) ∨ κ' k = .walkR Y.F.M ∨ κ' k = .parkR Y.F.M := fun k hk => by
      rcases cases_ k hk with rfl | rfl | ⟨k1, k2, k3, k4⟩
      · exact .inl k0'
      · exact .inr (.inr (.inl (kn' _ (Nat.le_refl _))))
      · rw [ko' k k3 k2]; exact .inr (h.kind k k1 k2)
    have notask : ∀ k, k < Y.F.N + 1 → (κ' k).task = none := fun k hk => by
      rcases kd k hk with e | ⟨q, e⟩ | e | e <;> (rw [e]; rfl)
    have whoA : ∀ k, k < Y.F.N + 1 → (κ' k).quits = Y.F.Q k := fun k hk => by
      rcases cases_ k hk with rfl | rfl | ⟨k1, k2, k3, k4⟩
      · rw [k0', h.q0]; rfl
      · rw [kn' _ (Nat.le_refl _), Qn]; rfl
      · rw [ko' k k3 k2]; exact h.who k k1 k2
    exact
      { size := by rw [szn, eN]
        own := by
          have e : (fun l => l < gs.size + 1 ∧ Y.F.Q l = false) = Y.F.A := by rw [eN]; rfl
          rw [e] at hO; exact hO
        told := by rw [← eN]; exact told'
        deaf := fun k hk q => by
          rw [hD]
          rcases cases_ k hk with rfl | rfl | ⟨k1, k2, k3, k4⟩
          · exact h.deaf0
          · exact h.above _ (Nat.le_refl _)
          · rw [ko' k k3 k2] at q; exact h.deaf k k1 k2 q
        left := fun k q gk hk e hgk => by
          rw [hD]
          rcases cases_ k hk with rfl | rfl | ⟨k1, k2, k3, k4⟩
          · rw [k0'] at e; cases e
          · rw [kn' _ (Nat.le_refl _)] at e; cases e
          · rw [ko' k k3 k2] at e
            rw [go k k3 k2] at hgk
            exact h.left k q gk k1 k2 e hgk
        crew := fun _ => ⟨gs.size, by omega, by omega, by rw [kn' _ (Nat.le_refl _)]; rfl⟩
        cn := h.cn, cb := h.cb, j := jd
        hold := hH _ (by rw [eC] at grp; exact grp)
        who := whoA
        nx := Nat.zero_le _, nd := List.nodup_nil, dlt := fun i hi => by cases hi
        m_is := by simp
        zero := .inl k0'
        oth := fun k k1 => by
          by_cases hk : k < Y.F.N + 1
          · rcases cases_ k hk with rfl | rfl | ⟨_, k2, k3, k4⟩
            · omega
            · rw [kn' _ (Nat.le_refl _)]; exact ⟨fun z => (by cases z), fun z => (by cases z)⟩
            · rw [ko' k k3 k2]
              rcases h.kind k k1 k2 with ⟨q, e⟩ | e | e <;> (rw [e]; exact ⟨fun z => (by cases z), fun z => (by cases z)⟩)
          · rw [kn' k (by omega)]; exact ⟨fun z => (by cases z), fun z => (by cases z)⟩
        at_ := fun k hk => by
          rcases cases_ k hk with rfl | rfl | ⟨k1, k2, k3, k4⟩
          · rw [k0', upd_same, o0]; exact ⟨g', gz, hT1⟩
          · rw [kn' _ (Nat.le_refl _), upd_ne _ _ (by omega), upd_same, on]; exact ⟨ch, gn, hTc⟩
          · obtain ⟨gk, hgk, ha⟩ := h.at_ k k1 k2
            rw [ko' k k3 k2, upd_ne _ _ k3, upd_ne _ _ k4, oo k k3 k4]
            refine ⟨gk, (go k k3 k2).trans hgk, ?_⟩
            have ha' := ha.rely K.f (rel k)
            rcases h.kind k k1 k2 with ⟨q, e⟩ | e | e <;> (rw [e] at ha' ⊢; exact ha')
        fuel := fun k k1 hk q => by
          rcases kd k hk with e | ⟨q', e⟩ | e | e
          · rcases cases_ k hk with rfl | rfl | ⟨_, k2, k3, k4⟩
            · omega
            · rw [kn' _ (Nat.le_refl _)] at e; cases e
            · rw [ko' k k3 k2] at e; rcases h.kind k k1 k2 with ⟨q, z⟩ | z | z <;> (rw [z] at e; cases e)
          · rw [e] at q; cases q
          · rw [e]; exact Nat.sub_le _ _
          · rw [e]; exact Nat.sub_le _ _
        task := fun k i hk e => by rw [notask k hk] at e; cases e
        one := fun k k' i hk _ e => by rw [notask k hk] at e; cases e
        all := fun i hi => by omega
        idle := fun e => by rw [k0'] at e; cases e }
theorem HireAt.step (h : HireAt Y gs W t κ τ T Own) (K : Y.Known) (hH : ∀ W, Y.At W ((Y.F.crew : Nat) * KK) 0 → Y.F.Hold W) (sl : Option (Nat × Nat)) : HNext Y (stepT Y.F.P (crowd gs W sl)) t κ τ T := by
  obtain ⟨aw, rn⟩ := h.runs K
  obtain ⟨i, g, d, sl', hg, hrun, hs⟩ := crowd_pick (P := Y.F.P) (w := W) (sl := sl) aw rn
  rw [hs]
  by_cases i0 : i = 0
  · subst i0
    obtain ⟨g0, hg0, hw⟩ := h.zero
    have : g0 = g := Option.some.inj (hg0.symm.trans hg)
    subst this
    cases hT : T 0 with
    | step f => exact h.own0 K hg hT hw d sl'
    | stop =>
      rw [hT] at hw
      have hst := hw W (RelyJ.refl _ _ h.j)
      cases τ with
      | dis s c =>
        obtain ⟨_, hst⟩ := hst
        obtain ⟨g', hs', hg'⟩ := hst d
        exact h.sync K (τ' := .add s c) hg d sl' hs' (sy_at W d).1 (ev_mk (m := .disable) trivial) (nr_mk (fun _ z => by cases z)) (sy_at W d).2 h.group hg' rfl rfl rfl (by simp [HTag.rank])
      | add s c =>
        obtain ⟨_, hst⟩ := hst
        obtain ⟨g', hs', h0, h1⟩ := hst d h.group
        have grp : Y.At ((W.at d).setCell (stA Y.Wg) (.int .u64 ((s + 1 : Nat) * KK))) ((s + 1 : Nat) * KK) 0 := Go.ConcR.WgAt.setSt (w := W.at d) h.group _
        have sc := sy_cell (W := W) K (a := stA Y.Wg) (v := .int .u64 ((s + 1 : Nat) * KK)) rfl d
        by_cases s0 : s = 0
        · have h0 := h0 s0
          subst s0
          exact h.sync K (τ' := .rd c) hg d sl' hs' sc.1 (ev_rw K 0) (nr_cells (cells_rw _).2.2) sc.2 grp h0 rfl rfl rfl (by simp [HTag.rank])
        · exact h.sync K (τ' := .en s c) hg d sl' hs' sc.1 (ev_rw K 0) (nr_cells (cells_rw _).2.2) sc.2 grp (h1 s0) rfl rfl rfl (by simp [HTag.rank])
      | rd c =>
        obtain ⟨_, hst⟩ := hst
        obtain ⟨g', hs', hg'⟩ := hst d
        exact h.sync K (τ' := .en 0 c) hg d sl' hs' (sy_at W d).1 (ev_mk (m := .read (smA Y.Wg)) ⟨K.syw, rfl⟩) (nr_mk (fun _ z => by cases z)) (sy_at W d).2 h.group hg' rfl rfl rfl (by simp [HTag.rank])
      | en s c =>
        obtain ⟨_, hst⟩ := hst
        obtain ⟨g', hs', hg'⟩ := hst d
        exact h.sync K (τ' := .go s c) hg d sl' hs' (sy_at W d).1 (ev_mk (m := .enable) trivial) (nr_mk (fun _ z => by cases z)) (sy_at W d).2 h.group hg' rfl rfl rfl (by simp [HTag.rank])
      | go s c => exact h.spawns K hH rfl hg hst d sl'
  · exact h.works K (by omega) (Array.getElem?_eq_some_iff.1 hg).1 hg hrun d sl'
theorem HireAt.done (K : Y.Known) (hH : ∀ W, Y.F.Hold W ↔ Y.At W ((Y.F.crew : Nat) * KK) 0) (h : HireAt Y gs W t κ τ T Own) {sl : Option (Nat × Nat)} :
    Comes Y.F.P (fun m t => ∃ gs W sl Own, m = crowd gs W sl ∧ YardOver Y gs W t Own) (crowd gs W sl) t := by
  refine Comes.trans (Comes.of_inv (Q := fun m t => ∃ gs W sl κ T Own, m = crowd gs W sl ∧ FarmAt Y.F gs W t κ T Own (Y.F.M + Y.F.M) 0 []) (Prod.lex ⟨_, Nat.lt_wfRel.wf⟩ ⟨_, ltC_wf (Y.F.N + 1)⟩).wf
    (fun μ mm t => ∃ gs W sl, mm = crowd gs W sl ∧ ((μ.1 = 1 ∧ ∃ κ τ T Own, HireAt Y gs W t κ τ T Own ∧ μ.2 = (hcount Y.F.N κ τ, T)) ∨ (μ.1 = 0 ∧ ∃ κ T Own, FarmAt Y.F gs W t κ T Own (Y.F.M + Y.F.M) 0 []))) ?_ (1, (hcount Y.F.N κ τ, T)) _ _ ⟨gs, W, sl, rfl, .inl ⟨rfl, κ, τ, T, Own, h, rfl⟩⟩) ?_
  · rintro ⟨μ1, μ2⟩ mm t ⟨gs, W, sl, rfl, ⟨e, κ, τ, T, Own, h, e2⟩ | ⟨_, κ, T, Own, hF⟩⟩
    · have e : μ1 = 1 := e
      have e2 : μ2 = (hcount Y.F.N κ τ, T) := e2
      subst e e2
      rcases h.step K (fun W => (hH W).2) sl with ⟨gs', W', sl', ops, κ', τ', T', Own', hs, hr, h'⟩ | ⟨gs', W', sl', ops, κ', T', Own', hs, hF⟩
      · exact .inr ⟨_, ops, (1, (hcount Y.F.N κ' τ', T')), hs, .right _ hr, gs', W', sl', rfl, .inl ⟨rfl, κ', τ', T', Own', h', rfl⟩⟩
      · exact .inr ⟨_, ops, (0, (hcount Y.F.N κ τ, T)), hs, .left _ _ (show (0 : Nat) < 1 by decide), gs', W', sl', rfl, .inr ⟨rfl, κ', T', Own', hF⟩⟩
    · exact .inl ⟨gs, W, sl, κ, T, Own, rfl, hF⟩
  · rintro m t ⟨gs, W, sl, κ, T, Own, rfl, hF⟩
    exact hF.done K fun W q => (hH W).1 q
end hire
end Go.Proofs.YtmbfdhekplnoaaaDoor

namespace Go.Proofs.YtmbfdhekplnoaaaDoor
open Go Go.Conc
open Go.ConcN (sumTo upd sumTo_upd upd_ne upd_same sumTo_congr sumTo_le)

structure AloneAt (P : Program) (Sh : Nat → Prop) (gs : Array Goroutine) (W : World) (t : Trace) (Own : Nat → Nat → Prop) (Sy : Nat → Prop) (q : Nat → Nat) (a : Goroutine) : Prop where
  zero : gs[0]? = some a
  own : Owners t (fun i => i = 0) W.heap.size Own Sh Sy
  left : Leavers P t gs q
  hears : Deaf t 0 = 0
  over : t.HandedOver
  who : ∀ i g, t.g? i = some g → g < gs.size
  norel : ∀ a, NoRelease a t
def Ends (P : Program) (Sh : Nat → Prop) (Post : Value → World → Prop) : Stp := fun O a W => a.status = .running ∧ ∀ gs t sl Own Sy q, Own 0 = O → AloneAt P Sh gs W t Own Sy q a → EndsIn P (Go.Conc.Good P Post) (crowd gs W sl) t
section alone
variable {P : Program} {Sh Sy : Nat → Prop} {gs : Array Goroutine} {W : World} {t : Trace} {Own : Nat → Nat → Prop} {q : Nat → Nat} {a : Goroutine} {sl : Option (Nat × Nat)}
theorem AloneAt.awake (h : AloneAt P Sh gs W t Own Sy q a) (hr : a.status = .running) : ∀ g ∈ gs, awake g := fun g hg => by
  obtain ⟨i, hi, rfl⟩ := Array.mem_iff_getElem.1 hg
  rcases Nat.eq_zero_or_pos i with rfl | hpos
  · have : gs[0] = a := by have := h.zero; rw [Array.getElem?_eq_getElem hi] at this; exact Option.some.inj this
    rw [this]; exact awake_of (.inl hr)
  · exact awake_of ((h.left.old i _ hpos (Array.getElem?_eq_getElem hi)).status.elim .inl fun x => .inr (.inr x))
theorem AloneAt.slip (h : AloneAt P Sh gs W t Own Sy q a) (hr : a.status = .running) {i : Nat} {g : Goroutine} (hi : gs[i]? = some g) (hg : g.status = .running) (hpos : 0 < i) (d : Nat) :
    ∃ gs' ops q', runT P (crowd gs (W.at d) sl) i = (.next (crowd gs' (W.at d) sl), ops) ∧ sumTo gs'.size q' < sumTo gs.size q ∧ AloneAt P Sh gs' (W.at d) (t ++ ops) Own Sy q' a := by
  have hq := h.left.old i g hpos hi
  have hi0 : (i == 0) = false := by rw [beq_eq_false_iff_ne]; omega
  have hlt : i < gs.size := (Array.getElem?_eq_some_iff.1 hi).1
  cases hqi : q i with
  | zero => rw [hqi] at hq; rw [hq.1] at hg; cases hg
  | succ k =>
    rw [hqi] at hq
    rcases hq with ⟨hf, _⟩ | ⟨_, g', es, hm, hstp, hq'⟩
    · rw [hf] at hg; cases hg
    have hrunT := runT_crowd_go (P := P) (sl := sl) (i := i) hi (by rw [hi0]; exact hstp (W.at d))
    have hsz : ((gs.map (woken P g g' (W.at d))).setIfInBounds i g').size = gs.size := by simp
    have ops : ∀ op ∈ MemOp.ofEvents i g.frame.fn g.frame.place es, op.g = i ∧ op.act.touch? = none ∧ op.act.low W.heap.size := fun op hop => by
      obtain ⟨e, he, rfl⟩ := Go.Conc.mem_ofEvents hop
      exact ⟨rfl, touch_mute (hm e he), low_mute (hm e he) _⟩
    have hsum : sumTo gs.size (upd q i k) + (k + 1) = sumTo gs.size q + k := by
      have := sumTo_upd q k id hlt
      simpa [hqi] using this
    refine ⟨_, _, upd q i k, hrunT, by rw [hsz]; omega, ?_⟩
    exact
      { zero := by
          have hne : i ≠ 0 := by omega
          rw [Array.getElem?_setIfInBounds_ne hne, Array.getElem?_map, h.zero]
          simp [woken_run hr]
        own := h.own.meet (fun op hop => (ops op hop).1) fun op hop => ⟨(ops op hop).2.2, fun x z => by rw [(ops op hop).2.1] at z; cases z⟩
        left := ⟨fun j x hj hx => by
          by_cases hji : i = j
          · subst hji
            rw [Array.getElem?_setIfInBounds_self_of_lt (by simpa using hlt)] at hx
            obtain rfl := Option.some.inj hx
            rw [upd_same, Deaf_own]
            exact hq'
          · rw [Array.getElem?_setIfInBounds_ne hji, Array.getElem?_map] at hx
            obtain ⟨y, hy, rfl⟩ := Option.map_eq_some_iff.1 hx
            have hqj := h.left.old j y hj hy
            rw [woken_quitsD hqj, upd_ne q k (Ne.symm hji), Deaf_other t hji _ fun op hop => (ops op hop).1]
            exact hqj, fun j hj => by
          rw [hsz] at hj
          rw [Deaf_other t (g' := i) (by omega) _ fun op hop => (ops op hop).1]
          exact h.left.above j hj⟩
        hears := by rw [Deaf_other t (g' := i) (by omega) _ fun op hop => (ops op hop).1]; exact h.hears
        over := handedOver_app h.over fun op hop => .inr (ops op hop).2.1
        who := fun j gj hj => by
          rw [hsz]
          rcases Nat.lt_or_ge j t.size with hl | hl
          · exact h.who j gj (by rw [← g?_old (u := MemOp.ofEvents i g.frame.fn g.frame.place es) hl]; exact hj)
          · obtain ⟨op, hop, e, _⟩ := g?_new hl hj
            rw [← e, (ops op hop).1]; exact hlt
        norel := fun a => (h.norel a).app fun op hop e => by obtain ⟨ev, he, rfl⟩ := Go.Conc.mem_ofEvents hop; exact mute_norel (hm ev he) _ e }
theorem AloneAt.comes {Stop : Stp} : ∀ {T : WT}, AloneAt P Sh gs W t Own Sy q a → WalksT P true Sh Stop T (Own 0) a W →
    Comes P (fun m t => ∃ gs W sl Own q a, m = crowd gs W sl ∧ AloneAt P Sh gs W t Own Sy q a ∧ Stop (Own 0) a W) (crowd gs W sl) t := by
  intro T h hw
  refine Comes.of_inv (P := P) (Prod.lex ⟨_, ⟨WT.acc⟩⟩ ⟨_, Nat.lt_wfRel.wf⟩).wf (fun (μ : WT × Nat) mm t => ∃ gs W sl Own q a, mm = crowd gs W sl ∧ AloneAt P Sh gs W t Own Sy q a ∧ WalksT P true Sh Stop μ.1 (Own 0) a W ∧ μ.2 = sumTo gs.size q) ?_ (T, sumTo gs.size q) _ _ ⟨gs, W, sl, Own, q, a, rfl, h, hw, rfl⟩
  rintro ⟨T, n⟩ mm t ⟨gs, W, sl, Own, q, a, rfl, h, hw, e⟩
  have e : n = sumTo gs.size q := e
  have hw : WalksT P true Sh Stop T (Own 0) a W := hw
  subst e
  cases T with
  | stop => exact .inl ⟨gs, W, sl, Own, q, a, rfl, h, hw W (Rely.refl _ _ _)⟩
  | step f =>
    have hr := hw.1
    obtain ⟨i, g, d, sl', hi, hg, hst⟩ := crowd_pick (P := P) (w := W) (sl := sl) (h.awake hr) ⟨0, a, h.zero, hr⟩
    rcases Nat.eq_zero_or_pos i with rfl | hpos
    · obtain rfl : g = a := by have := h.zero; rw [this] at hi; exact (Option.some.inj hi).symm
      obtain ⟨O', g', W', es, t1, hsub, hrun, hw', hO', hD, hR, hSy, _, _, _, hev, _⟩ := crowd_ownJ (sl := sl') (J := fun _ => True) h.own (fun _ _ _ q => q) trivial (A := fun i => i = 0) (i := 0) rfl hi (WalksJ.of_T hw) d
      have hlt : 0 < gs.size := (Array.getElem?_eq_some_iff.1 hi).1
      have hsz : ((gs.map (woken P g g' W')).setIfInBounds 0 g').size = gs.size := by simp
      refine .inr ⟨_, _, (t1, sumTo ((gs.map (woken P g g' W')).setIfInBounds 0 g').size q), hst.trans hrun, .left _ _ hsub, _, W', sl', ownUpd Own 0 O', q, g', rfl, ?_, ?_, rfl⟩
      · exact
          { zero := get_mapset_same _ _ _ hlt
            own := hO'
            left := ⟨fun j x hj hx => by
              have hne : 0 ≠ j := by omega
              rw [Array.getElem?_setIfInBounds_ne hne, Array.getElem?_map] at hx
              obtain ⟨y, hy, rfl⟩ := Option.map_eq_some_iff.1 hx
              have hq := h.left.old j y hj hy
              rw [woken_quitsD hq, hD]
              exact hq, fun j hj => by rw [hD]; exact h.left.above j (by rw [hsz] at hj; exact hj)⟩
            hears := (hD 0).trans h.hears
            over := handedOver_app h.over fun op hop => .inl (own_ops op hop)
            who := fun j gj hj => by
              rw [hsz]
              rcases Nat.lt_or_ge j t.size with hl | hl
              · exact h.who j gj (by rw [← g?_old (u := MemOp.ofEvents 0 g.frame.fn g.frame.place es) hl]; exact hj)
              · obtain ⟨op, hop, e, _⟩ := g?_new hl hj
                rw [← e, own_ops op hop]; exact hlt
            norel := fun a => (h.norel a).app fun op hop e => by obtain ⟨ev, he, rfl⟩ := Go.Conc.mem_ofEvents hop; exact evG_norel (hev ev he) _ e }
      · rw [ownUpd_same]
        have back : ∀ {T : WT} {O : Nat → Prop} {g : Goroutine} {W : World}, WalksJ P true (fun _ => True) Sh Stop T O g W → WalksT P true Sh Stop T O g W := by
          intro T
          induction T with
          | stop => exact fun h W1 q => h W1 ⟨q, trivial, trivial⟩
          | step f ih => exact fun h => ⟨h.1, fun W1 q => by
              obtain ⟨O', g', W', es, h1, h2, h3⟩ := h.2 W1 ⟨q, trivial, trivial⟩
              exact ⟨O', g', W', es, h1, h2, ih _ h3⟩⟩
        exact back hw'
    · obtain ⟨gs', ops, q', hrun, hlt, h'⟩ := h.slip (sl := sl') hr hi hg hpos d
      exact .inr ⟨_, ops, (.step f, sumTo gs'.size q'), hst.trans hrun, .right _ hlt, gs', W.at d, sl', Own, q', a, rfl, h', hw.rely (Rely.at _ _ _ _), rfl⟩
theorem ends_of_walk {Post : Value → World → Prop} {O : Nat → Prop} (h : Walks P true Sh (Ends P Sh Post) O a W) : Ends P Sh Post O a W := by
  obtain ⟨T, hT⟩ := WalksT.of h
  refine ⟨?_, fun gs t sl Own Sy q e hA => ?_⟩
  · cases h with
    | stop h => exact (h W (Rely.refl _ _ _)).1
    | step hs => exact hs
  · subst e
    exact (hA.comes (sl := sl) hT).ends fun m t ⟨gs, W, sl, Own, q, a, e, h, hs⟩ => by
      subst e
      exact hs.2 gs t sl Own Sy q rfl h
theorem ends_return {Post : Value → World → Prop} {O : Nat → Prop} (hr : a.status = .running) (h : ∀ d, ∃ v, stepG P true a (W.at d) = .ended (.done v) (W.at d) #[] ∧ Post v (W.at d)) : Ends P Sh Post O a W := by
  refine ⟨hr, fun gs t sl Own Sy q _ hA => ?_⟩
  refine run_of_inv Nat.lt_wfRel.wf (fun μ mm t => ∃ gs d sl q, mm = crowd gs (W.at d) sl ∧ AloneAt P Sh gs (W.at d) t Own Sy q a ∧ μ = sumTo gs.size q) (Go.Conc.Good P Post) ?_ (sumTo gs.size q) _ _ ⟨gs, W.drawn, sl, q, rfl, hA, rfl⟩
  rintro μ mm t ⟨gs, d0, sl, q, rfl, hA, rfl⟩
  obtain ⟨i, g, d, sl', hi, hg, hst⟩ := crowd_pick (P := P) (w := W.at d0) (sl := sl) (hA.awake hr) ⟨0, a, hA.zero, hr⟩
  rcases Nat.eq_zero_or_pos i with rfl | hpos
  · obtain rfl : g = a := by have := hA.zero; rw [this] at hi; exact (Option.some.inj hi).symm
    obtain ⟨v, hend, hpost⟩ := h d
    have hrunT := runT_many_ended (P := P) (sl := sl') (i := 0) hi (show stepG P (0 == 0) g (W.at d) = _ from hend)
    have nil : MemOp.ofEvents 0 g.frame.fn g.frame.place #[] = #[] := rfl
    rw [nil] at hrunT
    refine .inl ⟨_, _, _, hst.trans hrunT, v, rfl, hpost, ?_⟩
    rw [Array.append_empty]
    refine ⟨hA.own.clean, hA.over, ⟨fun x hx => ?_, rfl⟩, fun j x hx hj => ?_⟩
    · obtain ⟨j, hj⟩ := List.mem_iff_getElem?.1 hx
      rw [List.getElem?_drop] at hj
      exact ⟨_, (hA.left.old (1 + j) x (by omega) (by simpa [crowd] using hj)).leaves⟩
    · have hq := hA.left.old j x (by omega) hx
      exact ⟨q j, hq.hears _⟩
  · obtain ⟨gs', ops, q', hrun, hlt, h'⟩ := hA.slip (sl := sl') hr hi hg hpos d
    exact .inr ⟨_, ops, sumTo gs'.size q', hst.trans hrun, hlt, gs', d, sl', q', rfl, h', rfl⟩
end alone
end Go.Proofs.YtmbfdhekplnoaaaDoor
