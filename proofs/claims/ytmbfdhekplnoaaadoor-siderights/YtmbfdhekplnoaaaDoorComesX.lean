/-
  THE YARD: the starter closes the numbers; whoever moves, the invariant is kept and the measure falls, till the starter is past Wait.
  FROM THE FARM INTO THE YARD: the starter has all, nobody holds a number any more.
  REACHING: a run comes, on its tape, to a machine and a trace of which something holds; one behind another; then it ends. The farm and the yard, one behind the other.
-/
import Derived.Test.YtmbfdhekplnoaaaDoorYardRestX
namespace Go.Proofs.YtmbfdhekplnoaaaDoor
open Go Go.Conc
open Go.ConcN (sumTo upd sumTo_upd upd_ne upd_same sumTo_congr le_sumTo)
open Go.ConcR (KK WgAt stA smA rd wr mk)

def YTag.shut : YTag → YTag
  | .pk f => .tr f
  | x => x
section ends
variable {Y : Yard} {gs : Array Goroutine} {W W' : World} {t : Trace} {κ κ' : Nat → YTag} {T : Nat → WT} {Own : Nat → Nat → Prop} {k : Nat} {τ : YTag}
theorem shut_like (q : YTag) : q.shut.cnt = q.cnt ∧ q.shut.last = q.last ∧ q.shut.quits = q.quits ∧ q.shut.deaf = q.deaf ∧ q.shut.main = q.main ∧ q.shut.stage ≤ q.stage := by cases q <;> exact ⟨rfl, rfl, rfl, rfl, rfl, by simp [YTag.shut, YTag.stage]⟩
theorem cl_ev {c : Nat} {e : Event} (he : e ∈ (#[⟨.obj c, false, true⟩, ⟨.obj c, true, true⟩] : Array Event)) : e = ⟨.obj c, false, true⟩ ∨ e = ⟨.obj c, true, true⟩ := by simpa using he
theorem YardAt.closes (K : Y.Known) (h : YardAt Y gs W t κ T Own) (hκ : κ 0 = .cl) {g : Goroutine} (hg : gs[0]? = some g) (hst : YClose Y (Own 0) g W) (d : Nat) (sl : Option (Nat × Nat)) : YNext Y (runT Y.F.P (crowd gs (W.at d) sl) 0) t κ T := by
  obtain ⟨_, hmw, hst⟩ := hst
  obtain ⟨s, tm, c, hc, hcc⟩ := h.cn
  rw [hcc.2 hκ] at hc
  obtain ⟨g', hs, hrun', T1, hT1⟩ := hst d s tm hc
  have lt : Y.F.cn < (W.at d).heap.size := (Array.getElem?_eq_some_iff.1 hc).1
  have at_c : ((W.at d).setChan Y.F.cn 0 #[] true s s tm).heap[Y.F.cn]? = some (.chan 0 #[] true s s tm) := Array.getElem?_setIfInBounds_self_of_lt lt
  have at_w : ((W.at d).setChan Y.F.cn 0 #[] true s s tm).heap[Y.Wg]? = W.heap[Y.Wg]? := Array.getElem?_setIfInBounds_ne K.wn.symm
  have hW : SyOnly Y.F.Sy W ((W.at d).setChan Y.F.cn 0 #[] true s s tm) := (SyOnly.at _ W d).trans (SyOnly.setChan K.f.syn)
  have hJ : Y.F.J ((W.at d).setChan Y.F.cn 0 #[] true s s tm) := K.jc (W.at d) s tm hc (K.f.jst W (W.at d) (fun _ _ => rfl) h.j)
  obtain ⟨hr, hO, hR⟩ := crowd_sync (sl := sl) h.own hg d hs hW (.inr (h.act (by omega) (main_parts h.zero).2.2)) (fun e he => by rcases cl_ev he with rfl | rfl <;> exact ⟨rfl, K.f.syn⟩)
  generalize (W.at d).setChan Y.F.cn 0 #[] true s s tm = W' at *
  have Do : ∀ l, Deaf (t ++ MemOp.ofEvents 0 g.frame.fn g.frame.place #[⟨.obj Y.F.cn, false, true⟩, ⟨.obj Y.F.cn, true, true⟩]) l = Deaf t l := fun l => by
    by_cases e : l = 0
    · rw [e, Deaf_own]; rfl
    · exact Deaf_other t (fun z => e z.symm) _ fun op hop => by obtain ⟨_, _, rfl⟩ := Go.Conc.mem_ofEvents hop; rfl
  obtain ⟨m1, _, m3⟩ := h.mode.isOpen (by rw [hκ]; rfl)
  have z0 : upd (fun i => (κ i).shut) 0 YTag.kd 0 = .kd := upd_same _ _ _
  have zo : ∀ {i}, i ≠ 0 → upd (fun i => (κ i).shut) 0 YTag.kd i = (κ i).shut := fun hi => upd_ne _ _ hi
  have hV : YV Y (upd (fun i => (κ i).shut) 0 .kd) = YV Y κ := sumTo_congr fun i _ => by
    by_cases e : i = 0
    · rw [e, z0, hκ]; rfl
    · rw [zo e]; exact (shut_like _).1
  have wk : (mayWake Y.F.P g && g'.status != .blocked && g'.status != .waiting) = true := by rw [hmw, hrun']; rfl
  have shutAt : ∀ i gi, i ≠ 0 → i < Y.F.N + 1 → gs[i]? = some gi → YAt Y (T i) (Own i) gi W (κ i) → YAt Y (T i) (Own i) (woken Y.F.P g g' W' gi) W (κ i).shut := fun i gi i0 hi hgi ha => by
    rcases ha.status K h.j with ⟨f, q⟩ | q | ⟨q', q⟩ | q
    · rw [q] at ha ⊢
      obtain ⟨g₂, z, sh, rfl, hrc⟩ := ha
      refine ⟨g₂, z, sh, ?_, hrc⟩
      unfold woken
      rw [if_pos wk]
      exact again_recv_closed at_c
    · have := h.oth i (by omega); rw [q] at this; cases this
    · have hq := h.left i q' gi hi q hgi
      rw [woken_quitsD hq, q]
      rw [q] at ha
      exact ha
    · have e : woken Y.F.P g g' W' gi = gi := by
        unfold woken
        rw [if_pos wk]
        exact again_running _ (.inl q)
      rw [e]
      have np : ∀ f, κ i ≠ .pk f := fun f z => by
        rw [z] at ha
        obtain ⟨g₂, z', sh, rfl, _⟩ := ha
        cases q
      have : (κ i).shut = κ i := by
        cases q0 : κ i with
        | pk f => exact absurd q0 (np f)
        | _ => rfl
      rw [this]
      exact ha
  have hh : Hist Y (upd (fun i => (κ i).shut) 0 .kd) (t ++ MemOp.ofEvents 0 g.frame.fn g.frame.place #[⟨.obj Y.F.cn, false, true⟩, ⟨.obj Y.F.cn, true, true⟩]) :=
    (h.hmain (τ := .kd) rfl (fun z => by cases z) (fun e he _ q => by rcases cl_ev he with rfl | rfl <;> cases q) _ _).congr (fun l => by
      by_cases e : l = 0
      · rw [e, upd_same, upd_same]; exact ⟨rfl, rfl⟩
      · rw [upd_ne _ _ e, upd_ne _ _ e]; cases κ l <;> exact ⟨rfl, rfl⟩) fun z => by rw [upd_same] at z; cases z
  have hY : YardAt Y ((gs.map (woken Y.F.P g g' W')).setIfInBounds 0 g') W' (t ++ MemOp.ofEvents 0 g.frame.fn g.frame.place #[⟨.obj Y.F.cn, false, true⟩, ⟨.obj Y.F.cn, true, true⟩]) (upd (fun i => (κ i).shut) 0 .kd) (upd T 0 T1) Own :=
    { size := by simp [h.size]
      own := hO
      hist := hh
      deaf := fun l hl q => by
        rw [Do]
        by_cases e : l = 0
        · rw [e, z0]; have := h.deaf 0 (by omega) (main_parts h.zero).2.2; rw [hκ] at this; exact this
        · rw [zo e] at q ⊢; rw [(shut_like _).2.2.1] at q; rw [(shut_like _).2.2.2.1]; exact h.deaf l hl q
      left := fun l q gl hl e hgl => by
        rw [Do]
        have l0 : l ≠ 0 := fun z => by rw [z, z0] at e; cases e
        rw [zo l0] at e
        have e' : κ l = .quit q := by
          cases q0 : κ l with
          | pk f => rw [q0] at e; cases e
          | _ => rw [q0] at e; exact e
        obtain ⟨gi, hgi, _⟩ := h.at_ l hl
        rw [get_mapset _ _ _ _ l0, hgi] at hgl
        have hq := h.left l q gi hl e' hgi
        have : gl = gi := (Option.some.inj hgl).symm.trans (woken_quitsD hq)
        rw [this]; exact hq
      cn := ⟨s, tm, true, at_c, by rw [z0]; exact ⟨fun z => (by cases z), fun z => (by cases z)⟩⟩
      j := hJ
      zero := by rw [z0]; rfl
      oth := fun l hl => by rw [zo (by omega), (shut_like _).2.2.2.2.1]; exact h.oth l hl
      nopk := fun l f hl e => by
        by_cases l0 : l = 0
        · rw [l0, z0] at e; cases e
        · rw [zo l0] at e
          cases q0 : κ l <;> rw [q0] at e <;> cases e
      notr := fun l f hl e => by rw [z0]; exact fun z => by cases z
      at_ := fun l hl => by
        by_cases l0 : l = 0
        · refine ⟨g', by rw [l0]; exact get_mapset_same _ _ _ (by rw [h.size]; omega), ?_⟩
          rw [l0, upd_same, z0]
          exact hT1
        · obtain ⟨gi, hgi, ha⟩ := h.at_ l hl
          refine ⟨_, by rw [get_mapset _ _ _ _ l0, hgi]; rfl, ?_⟩
          rw [upd_ne _ _ l0, zo l0]
          exact (shutAt l gi l0 hl hgi ha).rely ⟨hR l, h.j, hJ⟩
      mode := .inl ⟨by rw [z0]; rfl, fun l hl => by
        by_cases l0 : l = 0
        · rw [l0, z0]; rfl
        · rw [zo l0, (shut_like _).2.1]; exact m1 l hl, fun vs e => (by rw [z0] at e; cases e), by rw [hV]; exact at_w.trans m3⟩ }
  refine ⟨_, _, sl, _, _, _, Own, hr, .left _ _ ?_, hY⟩
  unfold yphi
  rw [hV, z0, hκ]
  have := sumTo_mono (n := Y.F.N + 1) (f := fun i => (κ i).stage) (f' := fun i => (upd (fun i => (κ i).shut) 0 YTag.kd i).stage) fun i _ => by
    by_cases e : i = 0
    · rw [e, z0]; exact Nat.zero_le _
    · rw [zo e]; exact (shut_like _).2.2.2.2.2
  simp only [yrank]
  omega
theorem YardAt.runs (K : Y.Known) (h : YardAt Y gs W t κ T Own) : (∀ g ∈ gs, awake g) ∧ ∃ (i : Nat) (g : Goroutine), gs[i]? = some g ∧ g.status = .running := by
  refine ⟨fun g hg => ?_, ?_⟩
  · obtain ⟨i, hlt, e⟩ := Array.mem_iff_getElem.1 hg
    have hi : i < Y.F.N + 1 := by rw [← h.size]; exact hlt
    obtain ⟨g', hg', ha⟩ := h.at_ i hi
    have : g' = g := by rw [← e]; exact Option.some.inj (hg'.symm.trans (Array.getElem?_eq_getElem hlt))
    subst this
    intro s q
    rcases ha.status K h.j with ⟨f, z⟩ | z | ⟨q', z⟩ | z
    · rw [z] at ha; obtain ⟨_, _, _, rfl, _⟩ := ha; cases q
    · rw [z] at ha; obtain ⟨_, g1, rfl, _⟩ := ha; cases q
    · rcases (h.left i q' g' hi z hg').status with y | y <;> (rw [y] at q; cases q)
    · rw [z] at q; cases q
  · have run : ∀ i, i < Y.F.N + 1 → (∀ f, κ i ≠ .pk f) → κ i ≠ .blk → (κ i).quits = false → ∃ (i : Nat) (g : Goroutine), gs[i]? = some g ∧ g.status = .running := fun i hi a b c => by
      obtain ⟨g, hg, ha⟩ := h.at_ i hi
      rcases ha.status K h.j with ⟨f, z⟩ | z | ⟨q', z⟩ | z
      · exact absurd z (a f)
      · exact absurd z b
      · rw [z] at c; cases c
      · exact ⟨i, g, hg, z⟩
    by_cases hb : κ 0 = .blk
    · have npk : ∀ i, i < Y.F.N + 1 → ∀ f, κ i ≠ .pk f := fun i hi f e => by have := h.nopk i f hi e; rw [hb] at this; cases this
      have nblk : ∀ i, i ≠ 0 → κ i ≠ .blk := fun i hi e => by have := h.oth i (by omega); rw [e] at this; cases this
      rcases h.mode with ⟨a, _⟩ | ⟨_, _, c, _⟩ | ⟨_, L, l1, l2, l3, _⟩ | ⟨a, _⟩ | ⟨a, _⟩
      · rw [hb] at a; cases a
      · -- one is counted
        have : ∃ i, i < Y.F.N + 1 ∧ (κ i).cnt ≠ 0 := by
          apply Classical.byContradiction
          intro q
          have e0 : YV Y κ = sumTo (Y.F.N + 1) fun _ => 0 := sumTo_congr fun i hi => Classical.byContradiction fun z => q ⟨i, hi, z⟩
          have z : ∀ n, sumTo n (fun _ => 0) = 0 := fun n => by
            induction n with
            | zero => rfl
            | succ n ih => simp only [sumTo, ih]
          rw [z] at e0
          omega
        obtain ⟨i, hi, hc⟩ := this
        have i0 : i ≠ 0 := fun e => by rw [e, hb] at hc; exact hc rfl
        exact run i hi (npk i hi) (nblk i i0) (by cases q : κ i <;> rw [q] at hc <;> first | rfl | exact absurd rfl hc)
      · exact run L l2 (npk L l2) (nblk L (by omega)) (by cases q : κ L <;> rw [q] at l3 <;> first | rfl | (cases l3; done))
      · rcases a with a | a <;> (rw [hb] at a; cases a)
      · rw [hb] at a; cases a
    · refine run 0 (by omega) (fun f e => ?_) hb (main_parts h.zero).2.2
      have := h.zero; rw [e] at this; cases this
theorem YardAt.step (K : Y.Known) (h : YardAt Y gs W t κ T Own) (ne : ¬ (κ 0 = .ret ∧ T 0 = .stop)) (sl : Option (Nat × Nat)) : YNext Y (stepT Y.F.P (crowd gs W sl)) t κ T := by
  obtain ⟨aw, rn⟩ := h.runs K
  obtain ⟨i, g, d, sl', hg, hrun, hs⟩ := crowd_pick (P := Y.F.P) (w := W) (sl := sl) aw rn
  rw [hs]
  have hi : i < Y.F.N + 1 := by rw [← h.size]; exact (Array.getElem?_eq_some_iff.1 hg).1
  obtain ⟨g', hg', ha⟩ := h.at_ i hi
  have : g' = g := Option.some.inj (hg'.symm.trans hg)
  subst this
  have refl := RelyJ.refl (J := Y.F.J) (Own i) Y.F.Sh h.j
  have wi : (κ i).main = false → i ≠ 0 := fun e z => by have := h.zero; rw [← z, e] at this; cases this
  have mi : (κ i).main = true → i = 0 := fun e => by
    rcases Nat.eq_zero_or_pos i with z | z
    · exact z
    · have := h.oth i z; rw [e] at this; cases this
  have walk : ∀ {S : Stp}, WalksJ Y.F.P (i == 0) Y.F.J Y.F.Sh S (T i) (Own i) g' W → (∀ T' O' g' W', WalksJ Y.F.P (i == 0) Y.F.J Y.F.Sh S T' O' g' W' → YAt Y T' O' g' W' (κ i)) → (κ i).quits = false → (i ≠ 0 → (κ i).told = false) → (∀ f, κ i ≠ .pk f) → (∀ f, κ i ≠ .tr f) → (T i = .stop → S (Own i) g' W → YNext Y (runT Y.F.P (crowd gs (W.at d) sl') i) t κ T) → YNext Y (runT Y.F.P (crowd gs (W.at d) sl') i) t κ T := fun hw hb hq ht0 hp ht hst => by
    cases hT : T i with
    | stop =>
      rw [hT] at hw
      exact hst hT (hw W refl)
    | step f => exact h.ownStep K hi hg hT hw hb hq ht0 hp ht d sl'
  have walkQ : ∀ {S : Stp}, i ≠ 0 → QWalk Y.F.P Y.F.J Y.F.Sh S (T i) (Own i) g' W → (∀ T' O' g' W', QWalk Y.F.P Y.F.J Y.F.Sh S T' O' g' W' → YAt Y T' O' g' W' (κ i)) → (κ i).quits = false → (∀ f, κ i ≠ .pk f) → (∀ f, κ i ≠ .tr f) → (T i = .stop → S (Own i) g' W → YNext Y (runT Y.F.P (crowd gs (W.at d) sl') i) t κ T) → YNext Y (runT Y.F.P (crowd gs (W.at d) sl') i) t κ T := fun i0 hw hb hq hp ht hst => by
    cases hT : T i with
    | stop =>
      rw [hT] at hw
      exact hst hT (hw W refl)
    | step f => exact h.quietStep K hi i0 hg hT hw hb hq hp ht d sl'
  cases hκ : κ i with
  | pk f => rw [hκ] at ha; obtain ⟨_, _, _, rfl, _⟩ := ha; cases hrun
  | blk => rw [hκ] at ha; obtain ⟨_, g1, rfl, _⟩ := ha; cases hrun
  | quit q => exact h.quits K hi hκ hg hrun d sl'
  | tr f =>
    have i0 := wi (by rw [hκ]; rfl)
    rw [hκ] at ha
    obtain ⟨g₂, z, sh, rfl, hrc⟩ := ha
    exact h.asks K hi i0 (.inr hκ) hg d (hrc.1.1 _) hrc sl'
  | wr f =>
    have i0 := wi (by rw [hκ]; rfl)
    rw [hκ] at ha
    refine walk (S := KRecv Y.F f) (by rw [k_false i0]; exact ha) (fun T' O' g' W' q => by rw [hκ]; rw [k_false i0] at q; exact q) (by rw [hκ]; rfl) (fun _ => by rw [hκ]; rfl) (by rw [hκ]; exact fun _ z => by cases z) (by rw [hκ]; exact fun _ z => by cases z) fun _ q => ?_
    obtain ⟨_, g₂, z, sh, hstep, hrc⟩ := KRecv.iff.1 q
    exact h.asks K hi i0 (.inl hκ) hg d (hstep d) hrc sl'
  | d0 =>
    have i0 := wi (by rw [hκ]; rfl)
    rw [hκ] at ha
    exact walk (S := YR0 Y) (by rw [k_false i0]; exact ha) (fun T' O' g' W' q => by rw [hκ]; rw [k_false i0] at q; exact q) (by rw [hκ]; rfl) (fun _ => by rw [hκ]; rfl) (by rw [hκ]; exact fun _ z => by cases z) (by rw [hκ]; exact fun _ z => by cases z) fun _ q => h.r0 K hi i0 hκ hg q d sl'
  | k1 =>
    have i0 := wi (by rw [hκ]; rfl)
    rw [hκ] at ha
    exact walkQ (S := YK1 Y) i0 ha (fun T' O' g' W' q => by rw [hκ]; exact q) (by rw [hκ]; rfl) (by rw [hκ]; exact fun _ z => by cases z) (by rw [hκ]; exact fun _ z => by cases z) fun _ q => h.k1 K hi i0 hκ hg q d sl'
  | d1 =>
    have i0 := wi (by rw [hκ]; rfl)
    rw [hκ] at ha
    exact walkQ (S := YD1 Y) i0 ha (fun T' O' g' W' q => by rw [hκ]; exact q) (by rw [hκ]; rfl) (by rw [hκ]; exact fun _ z => by cases z) (by rw [hκ]; exact fun _ z => by cases z) fun _ q => h.add K hi i0 hκ hg q d sl'
  | d2 =>
    have i0 := wi (by rw [hκ]; rfl)
    rw [hκ] at ha
    exact walkQ (S := YD2 Y) i0 ha (fun T' O' g' W' q => by rw [hκ]; exact q) (by rw [hκ]; rfl) (by rw [hκ]; exact fun _ z => by cases z) (by rw [hκ]; exact fun _ z => by cases z) fun _ q => h.m2 K hi i0 hκ hg q d sl'
  | d3 =>
    have i0 := wi (by rw [hκ]; rfl)
    rw [hκ] at ha
    exact walkQ (S := YD3 Y) i0 ha (fun T' O' g' W' q => by rw [hκ]; exact q) (by rw [hκ]; rfl) (by rw [hκ]; exact fun _ z => by cases z) (by rw [hκ]; exact fun _ z => by cases z) fun _ q => h.m3 K hi i0 hκ hg q d sl'
  | d4 =>
    have i0 := wi (by rw [hκ]; rfl)
    rw [hκ] at ha
    exact walkQ (S := YD4 Y) i0 ha (fun T' O' g' W' q => by rw [hκ]; exact q) (by rw [hκ]; rfl) (by rw [hκ]; exact fun _ z => by cases z) (by rw [hκ]; exact fun _ z => by cases z) fun _ q => h.m4 K hi i0 hκ hg q d sl'
  | cl =>
    obtain rfl := mi (by rw [hκ]; rfl)
    rw [hκ] at ha
    exact walk (S := YClose Y) ha (fun T' O' g' W' q => by rw [hκ]; exact q) (by rw [hκ]; rfl) (fun _ => by rw [hκ]; rfl) (by rw [hκ]; exact fun _ z => by cases z) (by rw [hκ]; exact fun _ z => by cases z) fun _ q => h.closes K hκ hg q d sl'
  | kd =>
    obtain rfl := mi (by rw [hκ]; rfl)
    rw [hκ] at ha
    exact walk (S := YKd Y) ha (fun T' O' g' W' q => by rw [hκ]; exact q) (by rw [hκ]; rfl) (fun _ => by rw [hκ]; rfl) (by rw [hκ]; exact fun _ z => by cases z) (by rw [hκ]; exact fun _ z => by cases z) fun _ q => h.wkd K hκ hg q d sl'
  | an =>
    obtain rfl := mi (by rw [hκ]; rfl)
    rw [hκ] at ha
    exact walk (S := YW1 Y) ha (fun T' O' g' W' q => by rw [hκ]; exact q) (by rw [hκ]; rfl) (fun _ => by rw [hκ]; rfl) (by rw [hκ]; exact fun _ z => by cases z) (by rw [hκ]; exact fun _ z => by cases z) fun _ q => h.wload K hκ hg q d sl'
  | w2 vs =>
    obtain rfl := mi (by rw [hκ]; rfl)
    rw [hκ] at ha
    exact walk (S := YW2 Y vs) ha (fun T' O' g' W' q => by rw [hκ]; exact q) (by rw [hκ]; rfl) (fun _ => by rw [hκ]; rfl) (by rw [hκ]; exact fun _ z => by cases z) (by rw [hκ]; exact fun _ z => by cases z) fun _ q => h.wcas K hκ hg q d sl'
  | ws =>
    obtain rfl := mi (by rw [hκ]; rfl)
    rw [hκ] at ha
    exact walk (S := YWs Y) ha (fun T' O' g' W' q => by rw [hκ]; exact q) (by rw [hκ]; rfl) (fun _ => by rw [hκ]; rfl) (by rw [hκ]; exact fun _ z => by cases z) (by rw [hκ]; exact fun _ z => by cases z) fun _ q => h.wsaid K hκ hg q d sl'
  | w3 =>
    obtain rfl := mi (by rw [hκ]; rfl)
    rw [hκ] at ha
    exact walk (S := YW3 Y) ha (fun T' O' g' W' q => by rw [hκ]; exact q) (by rw [hκ]; rfl) (fun _ => by rw [hκ]; rfl) (by rw [hκ]; exact fun _ z => by cases z) (by rw [hκ]; exact fun _ z => by cases z) fun hT q => h.wsem K hκ hT hg q d sl'
  | w4 =>
    obtain rfl := mi (by rw [hκ]; rfl)
    rw [hκ] at ha
    exact walk (S := YW4 Y) ha (fun T' O' g' W' q => by rw [hκ]; exact q) (by rw [hκ]; rfl) (fun _ => by rw [hκ]; rfl) (by rw [hκ]; exact fun _ z => by cases z) (by rw [hκ]; exact fun _ z => by cases z) fun _ q => h.wl4 K hκ hg q d sl'
  | ke =>
    obtain rfl := mi (by rw [hκ]; rfl)
    rw [hκ] at ha
    exact walk (S := YKe Y) ha (fun T' O' g' W' q => by rw [hκ]; exact q) (by rw [hκ]; rfl) (fun _ => by rw [hκ]; rfl) (by rw [hκ]; exact fun _ z => by cases z) (by rw [hκ]; exact fun _ z => by cases z) fun _ q => h.wke K hκ hg q d sl'
  | acq =>
    obtain rfl := mi (by rw [hκ]; rfl)
    rw [hκ] at ha
    exact walk (S := YAcq Y) ha (fun T' O' g' W' q => by rw [hκ]; exact q) (by rw [hκ]; rfl) (fun _ => by rw [hκ]; rfl) (by rw [hκ]; exact fun _ z => by cases z) (by rw [hκ]; exact fun _ z => by cases z) fun _ q => h.wacq K hκ hg q d sl'
  | ret =>
    obtain rfl := mi (by rw [hκ]; rfl)
    rw [hκ] at ha
    exact walk (S := Y.After) ha (fun T' O' g' W' q => by rw [hκ]; exact q) (by rw [hκ]; rfl) (fun _ => by rw [hκ]; rfl) (by rw [hκ]; exact fun _ z => by cases z) (by rw [hκ]; exact fun _ z => by cases z) fun hT _ => absurd ⟨hκ, hT⟩ ne
end ends
end Go.Proofs.YtmbfdhekplnoaaaDoor

namespace Go.Proofs.YtmbfdhekplnoaaaDoor
open Go Go.Conc
open Go.ConcN (sumTo upd sumTo_upd upd_ne upd_same sumTo_congr)
open Go.ConcR (KK WgAt stA smA rd wr mk)

def KTag.yard : KTag → YTag
  | .walkR f | .walkS _ f => .wr f
  | .parkR f | .parkS _ f => .pk f
  | .mwalk | .mpark => .cl
  | .quit q => .quit q
section enter
variable {Y : Yard} {gs : Array Goroutine} {W : World} {t : Trace} {κ : Nat → KTag} {T : Nat → WT} {Own : Nat → Nat → Prop} {next : Nat} {ds : List Nat}
theorem FarmAt.none_out {F : Farm} (h : FarmAt F gs W t κ T Own 0 next ds) {k : Nat} (hk : k < F.N + 1) : (κ k).task = none := by
  cases e : (κ k).task with
  | none => rfl
  | some i =>
    obtain ⟨a, b⟩ := h.task k i hk e
    have hl := nodup_le next (i :: ds) (List.nodup_cons.2 ⟨b, h.nd⟩) fun x hx => by
      rcases List.mem_cons.1 hx with rfl | hx
      · exact a
      · exact h.dlt x hx
    rw [List.length_cons] at hl
    have := h.m_is
    have := h.nx
    omega
theorem FarmAt.enters (K : Y.Known) (hH : ∀ W, Y.F.Hold W → Y.At W ((Y.F.crew : Nat) * KK) 0) (h : FarmAt Y.F gs W t κ T Own 0 next ds) (hT : T 0 = .stop) : YardAt Y gs W t (fun k => (κ k).yard) T Own := by
  have h0 : κ 0 = .mwalk := by
    rcases h.zero with e | e
    · exact e
    · obtain ⟨g, _, ha⟩ := h.at_ 0 (by omega)
      rw [e] at ha
      obtain ⟨_, _, _, _, _, z, _⟩ := ha
      cases z
  have y0 : (κ 0).yard = .cl := by rw [h0]; rfl
  have yq : ∀ k, (κ k).yard.quits = (κ k).quits := fun k => by cases κ k <;> rfl
  have hV : YV Y (fun k => (κ k).yard) = Y.F.crew := sumTo_congr fun k hk => by
    by_cases k0 : k = 0
    · rw [if_pos k0]; show (κ k).yard.cnt = 0; rw [k0, y0]; rfl
    · rw [if_neg k0, ← h.who k hk]
      have ok := h.oth k (by omega)
      show (κ k).yard.cnt = _
      cases q : κ k with
      | mwalk => exact absurd q ok.1
      | mpark => exact absurd q ok.2
      | _ => rfl
  exact
    { size := h.size
      own := h.own
      hist := ⟨by
        have e : (fun k => k < Y.F.N + 1 ∧ Y.F.Q k = false ∧ (κ k).yard.told = true) = fun _ => False := funext fun k => propext ⟨fun ⟨hk, a, b⟩ => by
          have := h.who k hk
          rw [a] at this
          cases z : κ k <;> rw [z] at b this <;> first | (cases b; done) | (cases this; done), fun z => z.elim⟩
        rw [e]; exact h.told, fun k hk q => by rw [yq, h.who k hk]; exact q, fun q => by rw [y0] at q; cases q⟩
      deaf := fun k hk q => by
        rw [h.deaf k hk ((yq k).symm.trans q)]
        show 0 = (κ k).yard.deaf
        cases κ k <;> rfl
      left := fun k q g hk e hg => h.left k q g hk (by
        have e : (κ k).yard = .quit q := e
        cases z : κ k with
        | quit q' => rw [z] at e; cases e; rfl
        | _ => rw [z] at e; cases e) hg
      cn := by
        obtain ⟨s, tm, hc⟩ := h.cn
        exact ⟨s, tm, false, hc, fun _ => y0, fun _ => rfl⟩
      j := h.j
      zero := by show (κ 0).yard.main = true; rw [y0]; rfl
      oth := fun k hk => by
        have ok := h.oth k hk
        show (κ k).yard.main = false
        cases q : κ k with
        | mwalk => exact absurd q ok.1
        | mpark => exact absurd q ok.2
        | _ => rfl
      nopk := fun k f hk e => y0
      notr := fun k f hk e => by
        have e : (κ k).yard = .tr f := e
        cases z : κ k <;> (rw [z] at e; cases e)
      at_ := fun k hk => by
        obtain ⟨g, hg, ha⟩ := h.at_ k hk
        refine ⟨g, hg, ?_⟩
        have nt := h.none_out hk
        show YAt Y (T k) (Own k) g W (κ k).yard
        cases z : κ k with
        | walkR f => rw [z] at ha; exact ha
        | parkR f => rw [z] at ha; exact ha
        | quit q => rw [z] at ha; exact ha
        | walkS i f => rw [z] at nt; cases nt
        | parkS i f => rw [z] at nt; cases nt
        | mpark =>
          rw [z] at ha
          obtain ⟨_, _, _, _, _, z', _⟩ := ha
          cases z'
        | mwalk =>
          have k0 : k = 0 := by
            rcases Nat.eq_zero_or_pos k with e | e
            · exact e
            · exact absurd z (h.oth k e).1
          subst k0
          rw [z, hT] at ha
          rw [hT]
          exact fun W1 hr => K.close _ _ _ _ (ha W1 hr)
      mode := .inl ⟨by show (κ 0).yard.opn = true; rw [y0]; rfl, fun k hk => (by show (κ k).yard.last = false; cases κ k <;> rfl), fun vs e => (by have e : (κ 0).yard = .w2 vs := e; rw [y0] at e; cases e), by rw [hV]; exact hH W h.hold⟩ }
end enter
end Go.Proofs.YtmbfdhekplnoaaaDoor

namespace Go.Proofs.YtmbfdhekplnoaaaDoor
open Go Go.Conc
open Go.ConcR (KK)

inductive Comes (P : Program) (Q : Machine → Trace → Prop) : Machine → Trace → Prop
  | here {m : Machine} {t : Trace} : Q m t → Comes P Q m t
  | next {m m' : Machine} {t : Trace} {ops : Array MemOp} : stepT P m = (.next m', ops) → Comes P Q m' (t ++ ops) → Comes P Q m t
def EndsIn (P : Program) (R : Machine → Outcome → World → Trace → Prop) (m : Machine) (t : Trace) : Prop :=
  ∃ n last o w t', runNT P (n + 1) m t = (.ended o w, t') ∧ runN P n m = .next last ∧ step P last = .ended o w ∧ R last o w t'
section reach
variable {P : Program} {Q Q' : Machine → Trace → Prop} {R : Machine → Outcome → World → Trace → Prop} {m : Machine} {t : Trace}
theorem Comes.trans (h : Comes P Q m t) (k : ∀ m t, Q m t → Comes P Q' m t) : Comes P Q' m t := by
  induction h with
  | here q => exact k _ _ q
  | next hs _ ih => exact .next hs ih
theorem Comes.ends (h : Comes P Q m t) (k : ∀ m t, Q m t → EndsIn P R m t) : EndsIn P R m t := by
  induction h with
  | here q => exact k _ _ q
  | next hs _ ih =>
    obtain ⟨n, last, o, w, t', h1, h2, h3, h4⟩ := ih
    exact ⟨n + 1, last, o, w, t', by rw [runNT_succ_next hs]; exact h1, by rw [runN_succ_next hs]; exact h2, h3, h4⟩
theorem Comes.of_inv {α : Type} {r : α → α → Prop} (wf : WellFounded r) (Inv : α → Machine → Trace → Prop)
    (h : ∀ μ m t, Inv μ m t → Q m t ∨ ∃ m' ops μ', stepT P m = (.next m', ops) ∧ r μ' μ ∧ Inv μ' m' (t ++ ops)) : ∀ μ m t, Inv μ m t → Comes P Q m t := by
  intro μ
  induction μ using wf.induction with
  | _ μ ih =>
    intro m t hI
    rcases h μ m t hI with q | ⟨m', ops, μ', hs, hr, hI'⟩
    · exact .here q
    · exact .next hs (ih μ' hr m' _ hI')
end reach
section farm
variable {gs : Array Goroutine} {W : World} {t : Trace} {T : Nat → WT} {Own : Nat → Nat → Prop} {sl : Option (Nat × Nat)}
theorem FarmAt.comes {F : Farm} {κ : Nat → KTag} {m next : Nat} {ds : List Nat} (K : F.Known) (hC : ∀ ds O g W, F.Close ds O g W → g.status = .running) (h : FarmAt F gs W t κ T Own m next ds) :
    Comes F.P (fun m t => ∃ gs W sl κ T Own next ds, m = crowd gs W sl ∧ FarmAt F gs W t κ T Own 0 next ds ∧ T 0 = .stop) (crowd gs W sl) t := by
  refine Comes.of_inv (ltC_wf (F.N + 1)) (fun μ mm t => ∃ gs W sl κ T Own m next ds, mm = crowd gs W sl ∧ FarmAt F gs W t κ T Own m next ds ∧ μ = (FarmAt.count F.N κ m, T)) ?_ _ _ _ ⟨gs, W, sl, κ, T, Own, m, next, ds, rfl, h, rfl⟩
  rintro μ mm t ⟨gs, W, sl, κ, T, Own, m, next, ds, rfl, h, rfl⟩
  by_cases e : m = 0 ∧ T 0 = .stop
  · obtain ⟨rfl, e⟩ := e
    exact .inl ⟨gs, W, sl, κ, T, Own, next, ds, rfl, h, e⟩
  · obtain ⟨gs', W', sl', ops, κ', T', Own', m', next', ds', hs, hr, h'⟩ := h.step K hC e sl
    exact .inr ⟨_, ops, _, hs, hr, gs', W', sl', κ', T', Own', m', next', ds', rfl, h', rfl⟩
structure YardOver (Y : Yard) (gs : Array Goroutine) (W : World) (t : Trace) (Own : Nat → Nat → Prop) : Prop where
  size : gs.size = Y.F.N + 1
  own : Owners t Y.F.A W.heap.size Own Y.F.Sh Y.F.Sy
  over : t.HandedOver
  norel : ∀ a, NoRelease a t
  who : ∀ i g, t.g? i = some g → g < Y.F.N + 1
  deaf : Deaf t 0 = 0
  left : ∀ k, 1 ≤ k → k < Y.F.N + 1 → ∃ g q, gs[k]? = some g ∧ QuitsD Y.F.P q (Deaf t k) g
  j : Y.F.J W
  group : Y.At W 0 0
  numbers : ∃ s tm, W.heap[Y.F.cn]? = some (.chan 0 #[] true s s tm)
  after : ∃ g, gs[0]? = some g ∧ g.status = .running ∧ ∀ W1, RelyJ Y.F.J (Own 0) Y.F.Sh W W1 → Y.After (Own 0) g W1
theorem YardAt.over {Y : Yard} {κ : Nat → YTag} (K : Y.Known) (h : YardAt Y gs W t κ T Own) (e : κ 0 = .ret) (hT : T 0 = .stop) : YardOver Y gs W t Own := by
  have hm : AllQuit Y κ ∧ Y.At W 0 0 := by
    rcases h.mode with ⟨a, _⟩ | ⟨a, _⟩ | ⟨a, _⟩ | ⟨a, _⟩ | ⟨_, a⟩
    · rw [e] at a; cases a
    · rw [e] at a; cases a
    · rw [e] at a; cases a
    · rw [e] at a; rcases a with a | a <;> cases a
    · exact a
  exact
    { size := h.size
      own := h.own
      over := h.hist.over e
      norel := h.hist.told.norel
      who := h.hist.told.who
      deaf := by have := h.deaf 0 (by omega) (by rw [e]; rfl); rw [e] at this; exact this
      left := fun k h1 hk => by
        obtain ⟨g, hg, _⟩ := h.at_ k hk
        have := hm.1 k h1 hk
        cases q : κ k with
        | quit n => exact ⟨g, n, hg, h.left k n g hk q hg⟩
        | _ => rw [q] at this; cases this
      j := h.j
      group := hm.2
      numbers := by
        obtain ⟨s, tm, c, hc, hcc⟩ := h.cn
        cases c with
        | true => exact ⟨s, tm, hc⟩
        | false => have := hcc.1 rfl; rw [e] at this; cases this
      after := by
        obtain ⟨g, hg, ha⟩ := h.at_ 0 (by omega)
        rw [e, hT] at ha
        exact ⟨g, hg, K.aft _ _ _ (ha W (RelyJ.refl _ _ h.j)), ha⟩ }
theorem YardAt.comes {Y : Yard} {κ : Nat → YTag} (K : Y.Known) (h : YardAt Y gs W t κ T Own) : Comes Y.F.P (fun m t => ∃ gs W sl Own, m = crowd gs W sl ∧ YardOver Y gs W t Own) (crowd gs W sl) t := by
  refine Comes.of_inv (ltY_wf (Y.F.N + 1)) (fun μ mm t => ∃ gs W sl κ T Own, mm = crowd gs W sl ∧ YardAt Y gs W t κ T Own ∧ μ = (yphi Y κ, T, yflag κ)) ?_ _ _ _ ⟨gs, W, sl, κ, T, Own, rfl, h, rfl⟩
  rintro μ mm t ⟨gs, W, sl, κ, T, Own, rfl, h, rfl⟩
  by_cases e : κ 0 = .ret ∧ T 0 = .stop
  · exact .inl ⟨gs, W, sl, Own, rfl, h.over K e.1 e.2⟩
  · obtain ⟨gs', W', sl', ops, κ', T', Own', hs, hr, h'⟩ := h.step K e sl
    exact .inr ⟨_, ops, _, hs, hr, gs', W', sl', κ', T', Own', rfl, h', rfl⟩
theorem FarmAt.done {Y : Yard} {κ : Nat → KTag} {m next : Nat} {ds : List Nat} (K : Y.Known) (hH : ∀ W, Y.F.Hold W → Y.At W ((Y.F.crew : Nat) * KK) 0) (h : FarmAt Y.F gs W t κ T Own m next ds) :
    Comes Y.F.P (fun m t => ∃ gs W sl Own, m = crowd gs W sl ∧ YardOver Y gs W t Own) (crowd gs W sl) t :=
  (h.comes K.f fun ds O g W q => (K.close ds O g W q).1).trans fun _ _ ⟨_, _, _, _, _, _, _, _, e, hF, hT⟩ => e ▸ (hF.enters K hH hT).comes K
end farm
end Go.Proofs.YtmbfdhekplnoaaaDoor
