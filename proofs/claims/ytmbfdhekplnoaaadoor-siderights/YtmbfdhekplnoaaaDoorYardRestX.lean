/-
  THE YARD: the last one wakes the starter; the starter waits.
  THE YARD: the starter in Wait.
  THE YARD: a worker asks and sees the numbers closed; the starter closes them; who only leaves; the step.
-/
import Derived.Test.YtmbfdhekplnoaaaDoorYardMovesX
namespace Go.Proofs.YtmbfdhekplnoaaaDoor
open Go Go.Conc
open Go.ConcN (sumTo upd sumTo_upd upd_ne upd_same sumTo_congr le_sumTo)
open Go.ConcR (KK WgAt stA smA rd wr mk)

section moves
variable {Y : Yard} {gs : Array Goroutine} {W W' : World} {t : Trace} {κ κ' : Nat → YTag} {T : Nat → WT} {Own : Nat → Nat → Prop} {k : Nat} {τ : YTag}
theorem Mode.lasts (h : YardAt Y gs W t κ T Own) (hk : k < Y.F.N + 1) (k0 : k ≠ 0) (hl : (κ k).last = true) :
    (κ 0).reg = true ∧ (∀ l, 1 ≤ l → l < Y.F.N + 1 → l ≠ k → (κ l).quits = true) ∧ (κ k = .d4 → Y.At W 0 0) ∧ (κ k ≠ .d4 → Y.At W 1 0) := by
  have nq : (κ k).quits = false := by cases q : κ k <;> rw [q] at hl <;> first | rfl | (cases hl; done)
  rcases h.mode with ⟨_, m, _⟩ | ⟨_, m, _⟩ | ⟨a, L, _, _, l3, l4, l5, l6⟩ | ⟨_, m, _⟩ | ⟨_, m, _⟩
  · rw [m k hk] at hl; cases hl
  · rw [m k hk] at hl; cases hl
  · have e : L = k := by
      by_cases e : k = L
      · exact e.symm
      · have := l4 k (by omega) hk e; rw [nq] at this; cases this
    subst e
    exact ⟨a, l4, l5, l6⟩
  · have := m k (by omega) hk; rw [nq] at this; cases this
  · have := m k (by omega) hk; rw [nq] at this; cases this
theorem YardAt.m2 (K : Y.Known) (h : YardAt Y gs W t κ T Own) (hk : k < Y.F.N + 1) (k0 : k ≠ 0) (hκ : κ k = .d2) {g : Goroutine} (hg : gs[k]? = some g) (hst : YD2 Y (Own k) g W) (d : Nat) (sl : Option (Nat × Nat)) : YNext Y (runT Y.F.P (crowd gs (W.at d) sl) k) t κ T := by
  obtain ⟨_, hst⟩ := hst
  obtain ⟨_, _, _, hat⟩ := Mode.lasts h hk k0 (by rw [hκ]; rfl)
  obtain ⟨g', hs, T1, hT1⟩ := hst d (hat (by rw [hκ]; exact fun z => by cases z))
  have D := h.deaf k hk (by rw [hκ]; rfl)
  rw [hκ] at D
  exact h.sync K hk (h.hdeaf hk k0 (by rw [hκ]; rfl) (by rw [hκ]; rfl) (by rw [hκ]; rfl) rfl (cells_rw _).1 _ _) (by rw [hκ]; rfl) hg d sl (by rw [k_false k0]; exact hs) (sy_at W d).1 (ev_rd K k) (sy_at W d).2 h.mode.group (τ := .d3) ⟨T1, hT1⟩ (fun e => absurd e k0) (fun _ => by rw [D]; rfl) (fun q e => by cases e) (by rw [hκ]; rfl) (fun f e => by cases e)
    (fun κ' hw _ => h.mode.stays k0 hw (by rw [hκ]; rfl) (by rw [hκ]; rfl) (by rw [hκ]; rfl) (by rw [hκ]; exact ⟨fun z => (by cases z), fun z => (by cases z)⟩) rfl) (phi_worker hk k0 (by rw [hκ]; decide) (by rw [hκ]; decide))
theorem YardAt.m3 (K : Y.Known) (h : YardAt Y gs W t κ T Own) (hk : k < Y.F.N + 1) (k0 : k ≠ 0) (hκ : κ k = .d3) {g : Goroutine} (hg : gs[k]? = some g) (hst : YD3 Y (Own k) g W) (d : Nat) (sl : Option (Nat × Nat)) : YNext Y (runT Y.F.P (crowd gs (W.at d) sl) k) t κ T := by
  obtain ⟨_, hst⟩ := hst
  obtain ⟨hr, hq, _, hat⟩ := Mode.lasts h hk k0 (by rw [hκ]; rfl)
  have hat := hat (by rw [hκ]; exact fun z => by cases z)
  obtain ⟨g', hs, T1, hT1⟩ := hst d hat
  have D := h.deaf k hk (by rw [hκ]; rfl)
  rw [hκ] at D
  have grp : Y.At ((W.at d).setCell (stA Y.Wg) (.int .u64 0)) 0 0 := Go.ConcR.WgAt.setSt (w := W.at d) hat _
  have sc := sy_cell (W := W) K (a := stA Y.Wg) (v := .int .u64 0) rfl d
  refine h.sync K hk (h.hdeaf hk k0 (by rw [hκ]; rfl) (by rw [hκ]; rfl) (by rw [hκ]; rfl) rfl (cells_rw _).2.1 _ _) (by rw [hκ]; rfl) hg d sl (by rw [k_false k0]; exact hs) sc.1 (ev_wr K k) sc.2 ⟨_, _, grp⟩ (τ := .d4) ⟨T1, hT1⟩ (fun e => absurd e k0) (fun _ => by rw [D]; rfl) (fun q e => by cases e) (by rw [hκ]; rfl) (fun f e => by cases e) (fun κ' hw _ => ?_) (phi_worker hk k0 (by rw [hκ]; decide) (by rw [hκ]; decide))
  refine .inr (.inr (.inl ⟨?_, k, by omega, hk, by rw [hw.at_]; rfl, fun l l1 hl lk => ?_, fun _ => grp, fun e => absurd hw.at_ e⟩))
  · rcases hw.oth 0 k0.symm with q | ⟨_, _, q⟩
    · rw [q]; exact hr
    · rw [q]; rfl
  · obtain ⟨_, _, _, e, _⟩ := hw.like l
    rw [e, upd_ne _ _ lk]
    exact hq l l1 hl lk
theorem YardAt.m4 (K : Y.Known) (h : YardAt Y gs W t κ T Own) (hk : k < Y.F.N + 1) (k0 : k ≠ 0) (hκ : κ k = .d4) {g : Goroutine} (hg : gs[k]? = some g) (hst : YD4 Y (Own k) g W) (d : Nat) (sl : Option (Nat × Nat)) : YNext Y (runT Y.F.P (crowd gs (W.at d) sl) k) t κ T := by
  obtain ⟨_, hmw, hst⟩ := hst
  obtain ⟨hr, hq, hat, _⟩ := Mode.lasts h hk k0 (by rw [hκ]; rfl)
  have hat := hat hκ
  obtain ⟨g', hs, q, hqd⟩ := hst d hat
  have D := h.deaf k hk (by rw [hκ]; rfl)
  rw [hκ] at D
  have grp : Y.At ((W.at d).setCell (smA Y.Wg) (.int .u32 1)) 0 1 := Go.ConcR.WgAt.setSm (w := W.at d) hat _
  have sc := sy_cell (W := W) K (a := smA Y.Wg) (v := .int .u32 1) rfl d
  refine h.sync K hk (h.hist.deaf k0 (h.noret hk k0 (by rw [hκ]; rfl)) (by rw [hκ]; rfl) (by rw [hκ]; rfl) rfl (h.hist.told.sem hk (h.hist.old hk (by rw [hκ]; rfl)))) (by rw [hκ]; rfl) hg d sl (by rw [k_false k0]; exact hs) sc.1 (ev_sem K k) sc.2 ⟨_, _, grp⟩ (τ := .quit q) ⟨WT.chain q, rfl, _, hqd⟩ (fun e => absurd e k0) (fun e => by cases e) (fun q' e => by cases e; rw [D]; exact hqd) (by rw [hκ]; rfl) (fun f e => by cases e) (fun κ' hw hbl => ?_) (phi_worker hk k0 (by rw [hκ]; exact Nat.zero_lt_of_lt (show 1 < 2 by decide)) (by rw [hκ]; exact Nat.le_refl _))
  have nb := hbl k0 hmw (by rcases hqd.status with z | z <;> (rw [z]; exact fun w => by cases w)) (by rcases hqd.status with z | z <;> (rw [z]; exact fun w => by cases w))
  refine .inr (.inr (.inr (.inl ⟨?_, fun l l1 hl => ?_, grp⟩)))
  · rcases hw.oth 0 k0.symm with z | ⟨_, _, z⟩
    · rw [z] at nb ⊢
      cases q0 : κ 0 <;> rw [q0] at hr nb <;> first | exact .inl rfl | exact .inr rfl | (exact absurd rfl nb) | (cases hr; done)
    · exact .inr z
  · obtain ⟨_, _, _, e, _⟩ := hw.like l
    rw [e]
    by_cases lk : l = k
    · rw [lk, upd_same]; rfl
    · rw [upd_ne _ _ lk]; exact hq l l1 hl lk
/-! ### the starter -/
theorem Woke.zero (h : Woke κ κ' 0 τ) : κ' = upd κ 0 τ := by
  funext i
  by_cases e : i = 0
  · rw [e, h.at_, upd_same]
  · rw [upd_ne _ _ e]
    rcases h.oth i e with q | ⟨q, _⟩
    · exact q
    · exact absurd q e
theorem main_parts {q : YTag} (h : q.main = true) : q.cnt = 0 ∧ q.last = false ∧ q.quits = false := by cases q <;> first | exact ⟨rfl, rfl, rfl⟩ | (cases h; done)
theorem zero_like (hm0 : (κ 0).main = true) (hm : τ.main = true) : YV Y (upd κ 0 τ) = YV Y κ ∧ (NoLast Y κ → NoLast Y (upd κ 0 τ)) ∧ (AllQuit Y κ → AllQuit Y (upd κ 0 τ)) := by
  refine ⟨sumTo_congr fun i _ => ?_, fun h l hl => ?_, fun h l l1 hl => ?_⟩
  · by_cases e : i = 0
    · rw [e, upd_same, (main_parts hm).1, (main_parts hm0).1]
    · rw [upd_ne _ _ e]
  · by_cases e : l = 0
    · rw [e, upd_same]; exact (main_parts hm).2.1
    · rw [upd_ne _ _ e]; exact h l hl
  · rw [upd_ne _ _ (by omega)]; exact h l l1 hl
theorem all_quit (h : YardAt Y gs W t κ T Own) (hv : YV Y κ = 0) (hn : NoLast Y κ) : AllQuit Y κ := fun l l1 hl => by
  refine quit_of (h.oth l l1) ?_ (hn l hl)
  have := le_sumTo (f := fun i => (κ i).cnt) hl
  unfold YV at hv
  rw [hv] at this
  exact Nat.le_zero.1 this
theorem YardAt.hmain (h : YardAt Y gs W t κ T Own) (hm : τ.main = true) (hr : τ ≠ .ret) {es : Array Event} (hes : ∀ e ∈ es, NR (MemAct.ofEvent e)) (fn : FuncId) (pos : String) : Hist Y (upd κ 0 τ) (t ++ MemOp.ofEvents 0 fn pos es) :=
  h.hist.main h.zero hm (.inl hr) (fun op hop => by obtain ⟨_, _, rfl⟩ := Go.Conc.mem_ofEvents hop; rfl) fun op hop => by obtain ⟨e, he, rfl⟩ := Go.Conc.mem_ofEvents hop; exact hes e he
theorem nr_mk {m : Mark} (hm : ∀ a, m ≠ .release a) : ∀ e ∈ #[mk m], NR (MemAct.ofEvent e) := fun e he a q => by
  rw [Array.mem_singleton.1 he] at q
  have q : MemAct.mark m = .mark (.release a) := q
  cases q
  exact hm a rfl
theorem nr_cells {es : Array Event} (h : ∀ e ∈ es, ∃ b w, e = (⟨.cell b, w, true⟩ : Event)) : ∀ e ∈ es, NR (MemAct.ofEvent e) := fun e he a q => by
  obtain ⟨b, w, rfl⟩ := h e he
  cases q
theorem nr_sem {b : Addr} : ∀ e ∈ semEvents b, NR (MemAct.ofEvent e) := fun e he a q => by
  simp [semEvents] at he
  rcases he with rfl | rfl | rfl | rfl <;> cases q
theorem YardAt.goes0 (K : Y.Known) (h : YardAt Y gs W t κ T Own) {g g' : Goroutine} {es : Array Event} (τ : YTag) (hh : Hist Y (upd κ 0 τ) (t ++ MemOp.ofEvents 0 g.frame.fn g.frame.place es)) (hg : gs[0]? = some g) (d : Nat) (sl : Option (Nat × Nat)) (hs : stepG Y.F.P true g (W.at d) = .go g' (W.at d) es) (hes : ∀ e ∈ es, EvS Y.F.Sy 0 e) (hat : ∃ T1, YAt Y T1 (Own 0) g' (W.at d) τ) (hm : τ.main = true) (hcl : τ = .cl ↔ κ 0 = .cl) (hd : deafBehind (κ 0).deaf es = τ.deaf)
    (hmode : Mode Y (upd κ 0 τ) (W.at d)) (hr : yrank (YV Y κ) τ < yrank (YV Y κ) (κ 0)) : YNext Y (runT Y.F.P (crowd gs (W.at d) sl) 0) t κ T := by
  have D := h.deaf 0 (by omega) (main_parts h.zero).2.2
  exact h.sync K (by omega) hh (main_parts h.zero).2.2 hg d sl hs (sy_at W d).1 hes (sy_at W d).2 h.mode.group hat (fun _ => hcl) (fun _ => by rw [D]; exact hd) (fun q e => by rw [e] at hm; cases hm) (hm.trans h.zero.symm) (fun f e => by rw [e] at hm; cases hm) (htr := fun f e => by rw [e] at hm; cases hm) (fun κ' hw _ => by rw [hw.zero]; exact hmode) (phi_main hm h.zero hr)
end moves
end Go.Proofs.YtmbfdhekplnoaaaDoor

namespace Go.Proofs.YtmbfdhekplnoaaaDoor
open Go Go.Conc
open Go.ConcN (sumTo upd sumTo_upd upd_ne upd_same sumTo_congr le_sumTo)
open Go.ConcR (KK WgAt stA smA rd wr mk)

section waits
variable {Y : Yard} {gs : Array Goroutine} {W W' : World} {t : Trace} {κ κ' : Nat → YTag} {T : Nat → WT} {Own : Nat → Nat → Prop}
theorem Mode.isOpen (h : Mode Y κ W) (ho : (κ 0).opn = true) : NoLast Y κ ∧ (∀ vs, κ 0 = .w2 vs → YV Y κ ≤ vs ∧ 1 ≤ vs) ∧ Y.At W ((YV Y κ : Nat) * KK) 0 := by
  rcases h with ⟨_, m⟩ | ⟨a, _⟩ | ⟨a, _⟩ | ⟨a, _⟩ | ⟨a, _⟩
  · exact m
  · cases q : κ 0 <;> rw [q] at ho a <;> first | (cases ho; done) | (cases a; done)
  · cases q : κ 0 <;> rw [q] at ho a <;> first | (cases ho; done) | (cases a; done)
  · rcases a with a | a <;> (rw [a] at ho; cases ho)
  · cases q : κ 0 <;> rw [q] at ho a <;> first | (cases ho; done) | (cases a; done)
theorem Mode.isFin (h : Mode Y κ W) (ho : (κ 0).fin = true) : AllQuit Y κ ∧ Y.At W 0 0 := by
  rcases h with ⟨a, _⟩ | ⟨a, _⟩ | ⟨a, _⟩ | ⟨a, _⟩ | ⟨_, m⟩
  · cases q : κ 0 <;> rw [q] at ho a <;> first | (cases ho; done) | (cases a; done)
  · cases q : κ 0 <;> rw [q] at ho a <;> first | (cases ho; done) | (cases a; done)
  · cases q : κ 0 <;> rw [q] at ho a <;> first | (cases ho; done) | (cases a; done)
  · rcases a with a | a <;> (rw [a] at ho; cases ho)
  · exact m
theorem YardAt.hacq (K : Y.Known) (h : YardAt Y gs W t κ T Own) (hκ : κ 0 = .acq) (fn : FuncId) (pos : String) : Hist Y (upd κ 0 .ret) (t ++ MemOp.ofEvents 0 fn pos #[Go.ConcR.mk (.acquire (stA Y.Wg))]) := by
  have b : Hist Y (upd κ 0 .acq) (t ++ MemOp.ofEvents 0 fn pos #[Go.ConcR.mk (.acquire (stA Y.Wg))]) := h.hmain rfl (fun z => by cases z) (nr_mk (fun _ z => by cases z)) _ _
  obtain ⟨m1, _⟩ := h.mode.isFin (by rw [hκ]; rfl)
  have D := h.deaf 0 (by omega) (main_parts h.zero).2.2
  rw [hκ] at D
  have hov : (t ++ MemOp.ofEvents 0 fn pos #[Go.ConcR.mk (.acquire (stA Y.Wg))]).HandedOver := by
    rw [one_op]
    refine h.hist.told.past rfl (by rw [K.ga]; rfl) D (fun g hg => ?_) (by omega)
    by_cases g0 : g = 0
    · exact .inl g0
    · have q := m1 g (by omega) hg
      cases z : Y.F.Q g with
      | true => exact .inr (.inl rfl)
      | false => exact .inr (.inr ⟨hg, rfl, by cases y : κ g <;> rw [y] at q <;> first | rfl | (cases q; done)⟩)
  refine ⟨?_, fun l hl z => ?_, fun _ => hov⟩
  · have e : (fun k => k < Y.F.N + 1 ∧ Y.F.Q k = false ∧ (upd κ 0 .ret k).told = true) = fun k => k < Y.F.N + 1 ∧ Y.F.Q k = false ∧ (upd κ 0 .acq k).told = true := funext fun l => by
      by_cases e : l = 0
      · rw [e, upd_same, upd_same]; rfl
      · rw [upd_ne _ _ e, upd_ne _ _ e]
    rw [e]; exact b.told
  · have := b.oldq l hl z
    by_cases e : l = 0
    · rw [e, upd_same] at this; cases this
    · rw [upd_ne _ _ e] at this ⊢; exact this
theorem YardAt.wkd (K : Y.Known) (h : YardAt Y gs W t κ T Own) (hκ : κ 0 = .kd) {g : Goroutine} (hg : gs[0]? = some g) (hst : YKd Y (Own 0) g W) (d : Nat) (sl : Option (Nat × Nat)) : YNext Y (runT Y.F.P (crowd gs (W.at d) sl) 0) t κ T := by
  obtain ⟨_, hst⟩ := hst
  obtain ⟨g', hs, T1, hT1⟩ := hst d
  obtain ⟨m1, _, m3⟩ := h.mode.isOpen (by rw [hκ]; rfl)
  obtain ⟨z1, z2, _⟩ := zero_like (Y := Y) (τ := .an) h.zero rfl
  refine h.goes0 K .an (h.hmain rfl (fun z => by cases z) (nr_mk (fun _ z => by cases z)) _ _) hg d sl hs (ev_mk (m := .disable) trivial) (GoesJ.bind K.anch hT1) rfl (by rw [hκ]; exact ⟨fun z => (by cases z), fun z => (by cases z)⟩) (by rw [hκ]; rfl) (.inl ⟨by rw [upd_same]; rfl, z2 m1, fun vs e => (by rw [upd_same] at e; cases e), by rw [z1]; exact m3⟩) (by rw [hκ]; simp [yrank])
theorem YardAt.wload (K : Y.Known) (h : YardAt Y gs W t κ T Own) (hκ : κ 0 = .an) {g : Goroutine} (hg : gs[0]? = some g) (hst : YW1 Y (Own 0) g W) (d : Nat) (sl : Option (Nat × Nat)) : YNext Y (runT Y.F.P (crowd gs (W.at d) sl) 0) t κ T := by
  obtain ⟨_, hst⟩ := hst
  obtain ⟨m1, _, m3⟩ := h.mode.isOpen (by rw [hκ]; rfl)
  have hle := YV_le h
  have few := K.few
  obtain ⟨g', hs, h0, h1⟩ := hst d (YV Y κ) (by omega) m3
  by_cases hv : YV Y κ = 0
  · obtain ⟨T1, hT1⟩ := h0 hv
    obtain ⟨_, _, z3⟩ := zero_like (Y := Y) (τ := .ke) h.zero rfl
    refine h.goes0 K .ke (h.hmain rfl (fun z => by cases z) (nr_cells (cells_rw _).1) _ _) hg d sl hs (ev_rd K 0) ⟨T1, hT1⟩ rfl (by rw [hκ]; exact ⟨fun z => (by cases z), fun z => (by cases z)⟩) (by rw [hκ]; rfl) (.inr (.inr (.inr (.inr ⟨by rw [upd_same]; rfl, z3 (all_quit h hv m1), ?_⟩)))) (by rw [hκ]; simp [yrank])
    rw [hv] at m3
    have e : ((0 : Nat) : Int) * KK = 0 := Int.zero_mul _
    rw [e] at m3
    exact m3
  · obtain ⟨T1, hT1⟩ := h1 hv
    obtain ⟨z1, z2, _⟩ := zero_like (Y := Y) (τ := .w2 (YV Y κ)) h.zero rfl
    exact h.goes0 K (.w2 (YV Y κ)) (h.hmain rfl (fun z => by cases z) (nr_cells (cells_rw _).1) _ _) hg d sl hs (ev_rd K 0) ⟨T1, hT1⟩ rfl (by rw [hκ]; exact ⟨fun z => (by cases z), fun z => (by cases z)⟩) (by rw [hκ]; rfl) (.inl ⟨by rw [upd_same]; rfl, z2 m1, fun vs e => by rw [upd_same] at e; cases e; rw [z1]; exact ⟨Nat.le_refl _, by omega⟩, by rw [z1]; exact m3⟩) (by rw [hκ]; simp [yrank])
theorem YardAt.wcas (K : Y.Known) (h : YardAt Y gs W t κ T Own) {vs : Nat} (hκ : κ 0 = .w2 vs) {g : Goroutine} (hg : gs[0]? = some g) (hst : YW2 Y vs (Own 0) g W) (d : Nat) (sl : Option (Nat × Nat)) : YNext Y (runT Y.F.P (crowd gs (W.at d) sl) 0) t κ T := by
  obtain ⟨_, hst⟩ := hst
  obtain ⟨m1, m2, m3⟩ := h.mode.isOpen (by rw [hκ]; rfl)
  have hle := YV_le h
  have few := K.few
  obtain ⟨v1, v2⟩ := m2 vs hκ
  obtain ⟨h1, h2⟩ := hst d (YV Y κ) (by omega) m3
  by_cases hv : YV Y κ = vs
  · obtain ⟨g', hs, T1, hT1⟩ := h1 hv
    obtain ⟨z1, z2, _⟩ := zero_like (Y := Y) (τ := .ws) h.zero rfl
    have D := h.deaf 0 (by omega) (main_parts h.zero).2.2
    rw [hκ] at D
    have grp : Y.At ((W.at d).setCell (stA Y.Wg) (.int .u64 ((YV Y κ : Nat) * KK + 1))) ((YV Y κ : Nat) * KK + 1) 0 := Go.ConcR.WgAt.setSt (w := W.at d) m3 _
    have sc := sy_cell (W := W) K (a := stA Y.Wg) (v := .int .u64 ((YV Y κ : Nat) * KK + 1)) rfl d
    generalize (W.at d).setCell (stA Y.Wg) (.int .u64 ((YV Y κ : Nat) * KK + 1)) = W2 at hs hT1 grp sc
    exact h.sync K (by omega) (h.hmain rfl (fun z => by cases z) (nr_cells (cells_rw _).2.2) _ _) (by rw [hκ]; rfl) hg d sl hs sc.1 (ev_rw K 0) sc.2 ⟨_, _, grp⟩ (τ := .ws) ⟨T1, hT1⟩ (fun _ => by rw [hκ]; exact ⟨fun z => (by cases z), fun z => (by cases z)⟩) (fun _ => by rw [D]; rfl) (fun q e => by cases e) (by rw [hκ]; rfl) (fun f e => by cases e) (fun κ' hw _ => by rw [hw.zero]; exact .inr (.inl ⟨by rw [upd_same]; rfl, z2 m1, by rw [z1]; omega, by rw [z1]; exact grp⟩)) (phi_main rfl h.zero (by rw [hκ]; simp [yrank]))
  · obtain ⟨g', hs, T1, hT1⟩ := h2 hv
    obtain ⟨z1, z2, _⟩ := zero_like (Y := Y) (τ := .an) h.zero rfl
    exact h.goes0 K .an (h.hmain rfl (fun z => by cases z) (nr_cells (cells_rw _).1) _ _) hg d sl hs (ev_rd K 0) (GoesJ.bind K.anch hT1) rfl (by rw [hκ]; exact ⟨fun z => (by cases z), fun z => (by cases z)⟩) (by rw [hκ]; rfl) (.inl ⟨by rw [upd_same]; rfl, z2 m1, fun vs e => (by rw [upd_same] at e; cases e), by rw [z1]; exact m3⟩) (by rw [hκ]; simp only [yrank]; omega)
theorem YardAt.wsaid (K : Y.Known) (h : YardAt Y gs W t κ T Own) (hκ : κ 0 = .ws) {g : Goroutine} (hg : gs[0]? = some g) (hst : YWs Y (Own 0) g W) (d : Nat) (sl : Option (Nat × Nat)) : YNext Y (runT Y.F.P (crowd gs (W.at d) sl) 0) t κ T := by
  obtain ⟨_, hst⟩ := hst
  obtain ⟨g', hs, T1, hT1⟩ := hst d
  obtain ⟨z1, z2, z3⟩ := zero_like (Y := Y) (τ := .w3) h.zero rfl
  have hmode : Mode Y (upd κ 0 .w3) (W.at d) := by
    rcases h.mode with ⟨a, _⟩ | ⟨_, b, c, e⟩ | ⟨_, L, l1, l2, l3, l4, l5, l6⟩ | ⟨_, b, c⟩ | ⟨a, _⟩
    · rw [hκ] at a; cases a
    · exact .inr (.inl ⟨by rw [upd_same]; rfl, z2 b, by rw [z1]; exact c, by rw [z1]; exact e⟩)
    · have L0 : L ≠ 0 := by omega
      exact .inr (.inr (.inl ⟨by rw [upd_same]; rfl, L, l1, l2, by rw [upd_ne _ _ L0]; exact l3, fun k a b c => by rw [upd_ne _ _ (by omega)]; exact l4 k a b c, fun q => by rw [upd_ne _ _ L0] at q; exact l5 q, fun q => by rw [upd_ne _ _ L0] at q; exact l6 q⟩))
    · exact .inr (.inr (.inr (.inl ⟨.inr (upd_same _ _ _), z3 b, c⟩)))
    · rw [hκ] at a; cases a
  exact h.goes0 K .w3 (h.hmain rfl (fun z => by cases z) (nr_mk (fun _ z => by cases z)) _ _) hg d sl hs (ev_mk (m := .write (smA Y.Wg)) ⟨K.syw, rfl⟩) ⟨T1, hT1⟩ rfl (by rw [hκ]; exact ⟨fun z => (by cases z), fun z => (by cases z)⟩) (by rw [hκ]; rfl) hmode (by rw [hκ]; simp [yrank])
theorem YardAt.wsem (K : Y.Known) (h : YardAt Y gs W t κ T Own) (hκ : κ 0 = .w3) (hT : T 0 = .stop) {g : Goroutine} (hg : gs[0]? = some g) (hst : YW3 Y (Own 0) g W) (d : Nat) (sl : Option (Nat × Nat)) : YNext Y (runT Y.F.P (crowd gs (W.at d) sl) 0) t κ T := by
  obtain ⟨hrun, hof, hwait, htake⟩ := id hst
  have rel : RelyJ Y.F.J (Own 0) Y.F.Sh W (W.at d) := ⟨Rely.at _ _ _ _, h.j, K.f.jst W _ (fun _ _ => rfl) h.j⟩
  have D := h.deaf 0 (by omega) (main_parts h.zero).2.2
  rw [hκ] at D
  by_cases hs1 : Y.At W 0 1
  · -- it is up
    obtain ⟨g', hs, T1, hT1⟩ := htake (W.at d) rel hs1
    obtain ⟨_, _, z3⟩ := zero_like (Y := Y) (τ := .w4) h.zero rfl
    have aq : AllQuit Y κ := by
      rcases h.mode with ⟨a, _⟩ | ⟨_, _, _, e⟩ | ⟨_, L, _, _, _, _, l5, l6⟩ | ⟨_, b, _⟩ | ⟨a, _⟩
      · rw [hκ] at a; cases a
      · exact absurd (Go.ConcR.WgAt.unique hs1 e).2 (by decide)
      · by_cases q : κ L = .d4
        · exact absurd (Go.ConcR.WgAt.unique hs1 (l5 q)).2 (by decide)
        · exact absurd (Go.ConcR.WgAt.unique hs1 (l6 q)).2 (by decide)
      · exact b
      · rw [hκ] at a; cases a
    have grp : Y.At ((W.at d).setCell (smA Y.Wg) (.int .u32 0)) 0 0 := Go.ConcR.WgAt.setSm (w := W.at d) hs1 _
    have sc := sy_cell (W := W) K (a := smA Y.Wg) (v := .int .u32 0) rfl d
    exact h.sync K (by omega) (h.hmain rfl (fun z => by cases z) nr_sem _ _) (by rw [hκ]; rfl) hg d sl hs sc.1 (ev_sem K 0) sc.2 ⟨_, _, grp⟩ (τ := .w4) ⟨T1, hT1⟩ (fun _ => by rw [hκ]; exact ⟨fun z => (by cases z), fun z => (by cases z)⟩) (fun _ => by rw [D]; rfl) (fun q e => by cases e) (by rw [hκ]; rfl) (fun f e => by cases e) (fun κ' hw _ => by rw [hw.zero]; exact .inr (.inr (.inr (.inr ⟨by rw [upd_same]; rfl, z3 aq, grp⟩)))) (phi_main rfl h.zero (by rw [hκ]; simp [yrank]))
  · -- it waits
    have hz : ∃ st, Y.At (W.at d) st 0 := by
      rcases h.mode with ⟨_, _, _, e⟩ | ⟨_, _, _, e⟩ | ⟨_, L, _, _, _, _, l5, l6⟩ | ⟨_, _, e⟩ | ⟨_, _, e⟩
      · exact ⟨_, e⟩
      · exact ⟨_, e⟩
      · by_cases q : κ L = .d4
        · exact ⟨_, l5 q⟩
        · exact ⟨_, l6 q⟩
      · exact absurd e hs1
      · exact ⟨_, e⟩
    have hs := hwait (W.at d) rel hz
    obtain ⟨hr, hO, hR⟩ := crowd_sync (sl := sl) h.own hg d hs (sy_at W d).1 (.inl rfl) (fun e he => by cases he.1)
    obtain ⟨z1, z2, _⟩ := zero_like (Y := Y) (τ := .blk) h.zero rfl
    have jd : Y.F.J (W.at d) := K.f.jst W (W.at d) (fun _ _ => rfl) h.j
    have Dn : ∀ l, Deaf (t ++ MemOp.ofEvents 0 g.frame.fn g.frame.place #[]) l = Deaf t l := fun l => by rw [nil_ops]
    obtain ⟨κ', hw, _, hY⟩ := h.turn K (k := 0) (by omega) (g := g) (g' := { g with status := .blocked }) (ops := MemOp.ofEvents 0 g.frame.fn g.frame.place #[]) .blk .stop (fun op hop => by obtain ⟨e, _, rfl⟩ := Go.Conc.mem_ofEvents hop; rfl) (h.hmain rfl (fun z => by cases z) (fun e he => by cases he.1) _ _) hO (fun i _ => ⟨hR i, h.j, jd⟩) (fun _ _ => rfl) ⟨rfl, g, rfl, hst.rely rel⟩ jd rfl (fun _ => by rw [hκ]; exact ⟨fun z => (by cases z), fun z => (by cases z)⟩) (fun _ => by rw [Dn, D]; rfl) (fun q e => by cases e) (by rw [hκ]; rfl) (fun f e => by cases e) (fun f e => by cases e)
      (fun κ' hw _ => by
        rw [hw.zero]
        rcases h.mode with ⟨a, _⟩ | ⟨_, b, c, e⟩ | ⟨_, L, l1, l2, l3, l4, l5, l6⟩ | ⟨_, _, e⟩ | ⟨a, _⟩
        · rw [hκ] at a; cases a
        · exact .inr (.inl ⟨by rw [upd_same]; rfl, z2 b, by rw [z1]; exact c, by rw [z1]; exact e⟩)
        · have L0 : L ≠ 0 := by omega
          exact .inr (.inr (.inl ⟨by rw [upd_same]; rfl, L, l1, l2, by rw [upd_ne _ _ L0]; exact l3, fun k a b c => by rw [upd_ne _ _ (by omega)]; exact l4 k a b c, fun q => by rw [upd_ne _ _ L0] at q; exact l5 q, fun q => by rw [upd_ne _ _ L0] at q; exact l6 q⟩))
        · exact absurd e hs1
        · rw [hκ] at a; cases a)
    have eT : upd T 0 .stop = T := by
      funext i
      by_cases e : i = 0
      · rw [e, upd_same, hT]
      · exact upd_ne _ _ e
    have eP : yphi Y κ' = yphi Y κ := by
      rw [hw.phi]
      unfold yphi
      rw [z1, upd_same, hκ]
      congr 1
      refine sumTo_congr fun i _ => ?_
      by_cases e : i = 0
      · rw [e, upd_same, hκ]; rfl
      · rw [upd_ne _ _ e]
    refine ⟨_, _, sl, _, κ', T, Own, hr, ?_, by rw [eT] at hY; exact hY⟩
    rw [eP]
    refine .right _ (.right _ ?_)
    unfold yflag
    rw [hw.at_, hκ]
    decide
theorem YardAt.wl4 (K : Y.Known) (h : YardAt Y gs W t κ T Own) (hκ : κ 0 = .w4) {g : Goroutine} (hg : gs[0]? = some g) (hst : YW4 Y (Own 0) g W) (d : Nat) (sl : Option (Nat × Nat)) : YNext Y (runT Y.F.P (crowd gs (W.at d) sl) 0) t κ T := by
  obtain ⟨_, hst⟩ := hst
  obtain ⟨m1, m2⟩ := h.mode.isFin (by rw [hκ]; rfl)
  obtain ⟨g', hs, T1, hT1⟩ := hst d m2
  obtain ⟨_, _, z3⟩ := zero_like (Y := Y) (τ := .ke) h.zero rfl
  exact h.goes0 K .ke (h.hmain rfl (fun z => by cases z) (nr_cells (cells_rw _).1) _ _) hg d sl hs (ev_rd K 0) ⟨T1, hT1⟩ rfl (by rw [hκ]; exact ⟨fun z => (by cases z), fun z => (by cases z)⟩) (by rw [hκ]; rfl) (.inr (.inr (.inr (.inr ⟨by rw [upd_same]; rfl, z3 m1, m2⟩)))) (by rw [hκ]; simp [yrank])
theorem YardAt.wke (K : Y.Known) (h : YardAt Y gs W t κ T Own) (hκ : κ 0 = .ke) {g : Goroutine} (hg : gs[0]? = some g) (hst : YKe Y (Own 0) g W) (d : Nat) (sl : Option (Nat × Nat)) : YNext Y (runT Y.F.P (crowd gs (W.at d) sl) 0) t κ T := by
  obtain ⟨_, hst⟩ := hst
  obtain ⟨m1, m2⟩ := h.mode.isFin (by rw [hκ]; rfl)
  obtain ⟨g', hs, T1, hT1⟩ := hst d
  obtain ⟨_, _, z3⟩ := zero_like (Y := Y) (τ := .acq) h.zero rfl
  exact h.goes0 K .acq (h.hmain rfl (fun z => by cases z) (nr_mk (fun _ z => by cases z)) _ _) hg d sl hs (ev_mk (m := .enable) trivial) ⟨T1, hT1⟩ rfl (by rw [hκ]; exact ⟨fun z => (by cases z), fun z => (by cases z)⟩) (by rw [hκ]; rfl) (.inr (.inr (.inr (.inr ⟨by rw [upd_same]; rfl, z3 m1, m2⟩)))) (by rw [hκ]; simp [yrank])
theorem YardAt.wacq (K : Y.Known) (h : YardAt Y gs W t κ T Own) (hκ : κ 0 = .acq) {g : Goroutine} (hg : gs[0]? = some g) (hst : YAcq Y (Own 0) g W) (d : Nat) (sl : Option (Nat × Nat)) : YNext Y (runT Y.F.P (crowd gs (W.at d) sl) 0) t κ T := by
  obtain ⟨_, hst⟩ := hst
  obtain ⟨m1, m2⟩ := h.mode.isFin (by rw [hκ]; rfl)
  obtain ⟨g', hs, T1, hT1⟩ := hst d
  obtain ⟨_, _, z3⟩ := zero_like (Y := Y) (τ := .ret) h.zero rfl
  exact h.goes0 K .ret (h.hacq K hκ _ _) hg d sl hs (ev_mk (m := .acquire (stA Y.Wg)) K.syw) ⟨T1, hT1⟩ rfl (by rw [hκ]; exact ⟨fun z => (by cases z), fun z => (by cases z)⟩) (by rw [hκ]; rfl) (.inr (.inr (.inr (.inr ⟨by rw [upd_same]; rfl, z3 m1, m2⟩)))) (by rw [hκ]; simp [yrank])
end waits
end Go.Proofs.YtmbfdhekplnoaaaDoor

namespace Go.Proofs.YtmbfdhekplnoaaaDoor
open Go Go.Conc
open Go.ConcN (sumTo upd sumTo_upd upd_ne upd_same sumTo_congr le_sumTo)
open Go.ConcR (KK WgAt stA smA rd wr mk)

section rest
variable {Y : Yard} {gs : Array Goroutine} {W W' : World} {t : Trace} {κ κ' : Nat → YTag} {T : Nat → WT} {Own : Nat → Nat → Prop} {k : Nat} {τ : YTag}
theorem YardAt.put (K : Y.Known) (h : YardAt Y gs W t κ T Own) (hk : k < Y.F.N + 1) (k0 : k ≠ 0) {g' : Goroutine} {u : Trace} (d : Nat) (τ : YTag) (T1 : WT) (hh : Hist Y (upd κ k τ) (t ++ u)) (hO : Owners (t ++ u) Y.F.A W.heap.size Own Y.F.Sh Y.F.Sy) (hD : ∀ l, Deaf (t ++ u) l = Deaf t l) (hat : YAt Y T1 (Own k) g' (W.at d) τ) (hdf : τ.deaf = (κ k).deaf) (hq : τ.quits = false) (hq' : (κ k).quits = false) (hmn : τ.main = false) (hc : τ.cnt = (κ k).cnt) (hl : τ.last = (κ k).last) (h4 : τ = .d4 ↔ κ k = .d4)
    (hpk : ∀ f, τ = .pk f → κ 0 = .cl) (htr : ∀ f, τ ≠ .tr f) : YardAt Y (gs.setIfInBounds k g') (W.at d) (t ++ u) (upd κ k τ) (upd T k T1) Own := by
  have z : upd κ k τ 0 = κ 0 := upd_ne _ _ k0.symm
  have jd : Y.F.J (W.at d) := K.f.jst W (W.at d) (fun _ _ => rfl) h.j
  exact { size := by simp [h.size]
          own := hO
          hist := hh
          deaf := fun l hl q => by
            rw [hD]
            by_cases e : l = k
            · rw [e, upd_same, hdf]; exact h.deaf k hk hq'
            · rw [upd_ne _ _ e] at q ⊢; exact h.deaf l hl q
          left := fun l q g hl e hg => by
            rw [hD]
            have lk : l ≠ k := fun z => by rw [z, upd_same] at e; rw [e] at hq; cases hq
            rw [upd_ne _ _ lk] at e
            rw [Array.getElem?_setIfInBounds_ne fun z => lk z.symm] at hg
            exact h.left l q g hl e hg
          cn := by rw [z]; exact h.cn
          j := jd
          zero := by rw [z]; exact h.zero
          oth := fun l hl => by
            by_cases e : l = k
            · rw [e, upd_same]; exact hmn
            · rw [upd_ne _ _ e]; exact h.oth l hl
          nopk := fun l f hl e => by
            rw [z]
            by_cases lk : l = k
            · rw [lk, upd_same] at e; exact hpk f e
            · rw [upd_ne _ _ lk] at e; exact h.nopk l f hl e
          notr := fun l f hl e => by
            rw [z]
            by_cases lk : l = k
            · rw [lk, upd_same] at e; exact absurd e (htr f)
            · rw [upd_ne _ _ lk] at e; exact h.notr l f hl e
          at_ := fun l hl => by
            by_cases lk : l = k
            · refine ⟨g', by rw [lk]; exact Array.getElem?_setIfInBounds_self_of_lt (by rw [h.size]; exact hk), ?_⟩
              rw [lk, upd_same, upd_same]; exact hat
            · obtain ⟨gi, hgi, ha⟩ := h.at_ l hl
              refine ⟨gi, by rw [Array.getElem?_setIfInBounds_ne fun z => lk z.symm]; exact hgi, ?_⟩
              rw [upd_ne _ _ lk, upd_ne _ _ lk]
              exact ha.rely ⟨Rely.at _ _ _ _, h.j, jd⟩
          mode := h.mode.stays k0 ⟨upd_same _ _ _, fun i hi => .inl (upd_ne _ _ hi)⟩ hc hl (hq.trans hq'.symm) h4 rfl }
theorem YardAt.nosend (K : Y.Known) (h : YardAt Y gs W t κ T Own) {j kj : Nat} {gj : Goroutine} {cs : Array CommCase} {sh : CommShape} {cj : CommCase} {v : Value} (hj : gs[j]? = some gj) (hs : gj.status = .blocked) (ho : gj.offers = some (cs, sh)) (hk : cs[kj]? = some cj) (hv : cj.send = some v) : False := by
  have hlt : j < Y.F.N + 1 := by rw [← h.size]; exact (Array.getElem?_eq_some_iff.1 hj).1
  obtain ⟨g, hg, ha⟩ := h.at_ j hlt
  have : g = gj := Option.some.inj (hg.symm.trans hj)
  subst this
  rcases ha.status K h.j with ⟨f, q⟩ | q | ⟨q', q⟩ | q
  · rw [q] at ha
    obtain ⟨g₂, z, sh', rfl, _⟩ := ha
    cases ho
    match kj, hk with
    | 0, hk => cases hk; cases hv
  · rw [q] at ha
    obtain ⟨_, g1, rfl, hw⟩ := ha
    have := hw.2.1
    have ho' : g1.offers = some (cs, sh) := ho
    rw [this] at ho'
    cases ho'
  · rcases (h.left j q' g hlt q hg).status with z | z <;> (rw [z] at hs; cases hs)
  · rw [q] at hs; cases hs
theorem YardAt.asks (K : Y.Known) (h : YardAt Y gs W t κ T Own) (hk : k < Y.F.N + 1) (k0 : k ≠ 0) {f : Nat} (hκ : κ k = .wr f ∨ κ k = .tr f) {g g₂ : Goroutine} {z : Value} {sh : CommShape} (hg : gs[k]? = some g) (d : Nat) (hs : stepG Y.F.P false g (W.at d) = .comm g₂ #[rcase Y.F.cn z] true sh (W.at d) #[]) (hrc : RecvC Y.F f (Own k) g₂ z sh W) (sl : Option (Nat × Nat)) : YNext Y (runT Y.F.P (crowd gs (W.at d) sl) k) t κ T := by
  have hs' : stepG Y.F.P (k == 0) g (W.at d) = .comm g₂ #[rcase Y.F.cn z] true sh (W.at d) #[] := by rw [k_false k0]; exact hs
  obtain ⟨s, tm, c, hc, hcc⟩ := h.cn
  have hc' : (W.at d).heap[Y.F.cn]? = some (.chan 0 #[] c s s tm) := hc
  have lt : Y.F.cn < W.heap.size := (Array.getElem?_eq_some_iff.1 hc).1
  have only : ∀ {k' : Nat} {cc : CommCase}, #[rcase Y.F.cn z][k']? = some cc → k' = 0 ∧ cc = rcase Y.F.cn z := fun {k' cc} e => by
    match k', e with
    | 0, e => exact ⟨rfl, (Option.some.inj e).symm⟩
  have hfit : ∀ cc ∈ #[rcase Y.F.cn z], Fits (W.at d) cc := fun cc hcc' => by
    rw [Array.mem_singleton.1 hcc']
    exact .inr ⟨Y.F.cn, c, s, s, tm, rfl, hc', fun q => by cases q⟩
  have nq : (κ k).quits = false := by rcases hκ with e | e <;> (rw [e]; rfl)
  have dk : (κ k).deaf = 0 := by rcases hκ with e | e <;> (rw [e]; rfl)
  have ck : (κ k).cnt = 1 := by rcases hκ with e | e <;> (rw [e]; rfl)
  have lk : (κ k).last = false := by rcases hκ with e | e <;> (rw [e]; rfl)
  have n4 : κ k ≠ .d4 := by rcases hκ with e | e <;> (rw [e]; exact fun z => by cases z)
  rcases crowd_comm (sl := sl) hg hs' hfit with ⟨hr, hno⟩ | ⟨k', cc, _, _, _, _, _, _, _, _, _, _, _, _, _, hk', _, hsv, _⟩ | ⟨_, _, _, _, _, _, _, _, _, _, _, _, _, _, _, _, _, _, _, _, hj, hjs, hjo, hjk, _, hjv, _⟩ | ⟨k', cc, c', s', r', tm', d', hk', hcc', _, hch, _, hr⟩
  · -- it waits: the numbers are open still
    have hop : c = false := by
      cases c with
      | false => rfl
      | true =>
        have hn := hno (rcase Y.F.cn z) (by simp)
        rcases hp : partners (gs.setIfInBounds k ph) Y.F.cn true with _ | ⟨p, ps⟩ <;> simp [ways, rcase, hc', hp] at hn
    have c0 := hcc.1 hop
    have hw : κ k = .wr f := hκ.elim id fun e => absurd c0 (h.notr k f hk e)
    refine ⟨_, _, sl, _, upd κ k (.pk f), upd T k (T k), Own, hr, .left _ _ (phi_worker hk k0 (by rw [hw]; exact Nat.lt_succ_self 9) (by rw [hw]; exact Nat.le_refl _)), ?_⟩
    refine h.put K hk k0 d (.pk f) (T k) (h.hist.quiet hk (by rw [hw]; rfl) (by rw [hw]; rfl) (fun e => absurd e k0) (fun op hop => by rw [ofEvents_none] at hop; cases hop.1) (fun op hop => by rw [ofEvents_none] at hop; cases hop.1) (fun op hop => by rw [ofEvents_none] at hop; cases hop.1)) (by rw [nil_ops]; exact h.own) (fun l => by rw [nil_ops]) ⟨g₂, z, sh, rfl, hrc.rely ⟨Rely.at _ _ _ _, h.j, K.f.jst W _ (fun _ _ => rfl) h.j⟩⟩ dk.symm rfl nq rfl ck.symm lk.symm ⟨fun e => (by cases e), fun e => absurd e n4⟩ (fun _ _ => c0) fun f' e => by cases e
  · obtain ⟨_, rfl⟩ := only hk'
    cases hsv
  · exact (h.nosend K hj hjs hjo hjk hjv).elim
  · obtain ⟨rfl, rfl⟩ := only hk'
    cases hcc'
    have rel : RelyJ Y.F.J (Own k) Y.F.Sh W (W.at d') := ⟨Rely.at _ _ _ _, h.j, K.f.jst W _ (fun _ _ => rfl) h.j⟩
    obtain ⟨T1, hT1⟩ := (hrc.1.2 (W.at d') rel).mono fun O g W q => K.done O g W q
    have hu : ∀ l, Deaf (t ++ (MemOp.ofEvents k g.frame.fn g.frame.place #[] ++ #[{ g := k, fn := g₂.frame.fn, pos := g₂.frame.place, act := .recvClosed Y.F.cn }])) l = Deaf t l := fun l => by
      rw [nil_ops', Deaf_push]
      rfl
    have hO : Owners (t ++ (MemOp.ofEvents k g.frame.fn g.frame.place #[] ++ #[{ g := k, fn := g₂.frame.fn, pos := g₂.frame.place, act := .recvClosed Y.F.cn }])) Y.F.A W.heap.size Own Y.F.Sh Y.F.Sy := by
      rw [nil_ops']
      refine h.own.meet (i0 := k) (fun op hop => by rw [Array.mem_singleton.1 hop]) fun op hop => ?_
      rw [Array.mem_singleton.1 hop]
      exact ⟨lt, fun a e => by cases e⟩
    refine ⟨_, _, sl, _, upd κ k .d0, upd T k T1, Own, hr, .left _ _ (phi_worker hk k0 (by rcases hκ with e | e <;> (rw [e]; show 7 < _; simp [YTag.stage])) (by rw [ck]; exact Nat.le_refl _)), ?_⟩
    have hcl : ∀ op ∈ MemOp.ofEvents k g.frame.fn g.frame.place #[] ++ #[({ g := k, fn := g₂.frame.fn, pos := g₂.frame.place, act := .recvClosed Y.F.cn } : MemOp)], op.g = k ∧ op.act = .recvClosed Y.F.cn := fun op hop => by
      rw [ofEvents_none] at hop
      simp at hop
      rw [hop]; exact ⟨rfl, rfl⟩
    exact h.put K hk k0 d' .d0 T1 (h.hist.quiet hk (by rcases hκ with e | e <;> (rw [e]; rfl)) (by rcases hκ with e | e <;> (rw [e]; rfl)) (fun e => absurd e k0) (fun op hop => (hcl op hop).1) (fun op hop _ q => by rw [(hcl op hop).2] at q; cases q) (fun op hop => by rw [(hcl op hop).2]; rfl)) hO hu hT1 dk.symm rfl nq rfl ck.symm lk.symm ⟨fun e => (by cases e), fun e => absurd e n4⟩ (fun f e => by cases e) fun f e => by cases e
theorem YardAt.quits (K : Y.Known) (h : YardAt Y gs W t κ T Own) (hk : k < Y.F.N + 1) {q : Nat} (hκ : κ k = .quit q) {g : Goroutine} (hg : gs[k]? = some g) (hrun : g.status = .running) (d : Nat) (sl : Option (Nat × Nat)) : YNext Y (runT Y.F.P (crowd gs (W.at d) sl) k) t κ T := by
  have hq := h.left k q g hk hκ hg
  obtain ⟨g0, hg0, ha⟩ := h.at_ k hk
  have : g0 = g := Option.some.inj (hg0.symm.trans hg)
  subst this
  rw [hκ] at ha
  obtain ⟨hT, _⟩ := ha
  have k0 : k ≠ 0 := fun e => by have := h.zero; rw [← e, hκ] at this; cases this
  cases q with
  | zero => rw [hq.1] at hrun; cases hrun
  | succ q =>
    rcases hq with ⟨hf, _⟩ | ⟨_, g', es, hm, hst, hq'⟩
    · rw [hf] at hrun; cases hrun
    have hs : stepG Y.F.P (k == 0) g0 (W.at d) = .go g' (W.at d) es := by rw [k_false k0]; exact hst _
    have ops : ∀ op ∈ MemOp.ofEvents k g0.frame.fn g0.frame.place es, op.g = k ∧ op.act.touch? = none ∧ op.act.low W.heap.size := fun op hop => by
      obtain ⟨e, he, rfl⟩ := Go.Conc.mem_ofEvents hop
      exact ⟨rfl, touch_mute (hm e he), low_mute (hm e he) _⟩
    have Dk : Deaf (t ++ MemOp.ofEvents k g0.frame.fn g0.frame.place es) k = deafBehind (Deaf t k) es := Deaf_own t k _ _ es
    have jd : Y.F.J (W.at d) := K.f.jst W (W.at d) (fun _ _ => rfl) h.j
    obtain ⟨κ', hw, _, hY⟩ := h.turn K (W' := W.at d) hk (g := g0) (g' := g') (ops := MemOp.ofEvents k g0.frame.fn g0.frame.place es) (.quit q) (WT.chain q) (fun op hop => (ops op hop).1) (h.hist.quiet hk (by rw [hκ]; rfl) (by rw [hκ]; rfl) (fun e => absurd e k0) (fun op hop => (ops op hop).1) (fun op hop _ e => by obtain ⟨ev, he, rfl⟩ := Go.Conc.mem_ofEvents hop; exact mute_norel (hm ev he) _ e) (fun op hop => (ops op hop).2.1)) (h.own.meet (fun op hop => (ops op hop).1) fun op hop => ⟨(ops op hop).2.2, fun a e => by rw [(ops op hop).2.1] at e; cases e⟩) (fun i _ => ⟨Rely.at _ _ _ _, h.j, jd⟩) (fun _ _ => rfl) ⟨rfl, _, hq'⟩ jd rfl (fun e => absurd e k0) (fun e => by cases e) (fun q' e => by cases e; rw [Dk]; exact hq') (by rw [hκ]; rfl) (fun f e => by cases e) (fun f e => by cases e)
      (fun κ' hw _ => h.mode.stays k0 hw (by rw [hκ]; rfl) (by rw [hκ]; rfl) (by rw [hκ]; rfl) (by rw [hκ]; exact ⟨fun z => (by cases z), fun z => (by cases z)⟩) rfl)
    have eP : yphi Y κ' = yphi Y κ := by
      rw [hw.phi]
      unfold yphi
      have e1 : YV Y (upd κ k (.quit q)) = YV Y κ := sumTo_congr fun i _ => by
        by_cases e : i = k
        · rw [e, upd_same, hκ]; rfl
        · rw [upd_ne _ _ e]
      rw [e1, upd_ne _ _ k0.symm]
      congr 1
      exact sumTo_congr fun i _ => by
        by_cases e : i = k
        · rw [e, upd_same, hκ]; rfl
        · rw [upd_ne _ _ e]
    refine ⟨_, _, sl, _, κ', upd T k (WT.chain q), Own, runT_crowd_go hg hs, ?_, hY⟩
    rw [eP]
    exact .right _ (.left _ _ ⟨k, hk, by rw [upd_same, hT]; exact ⟨_, W, rfl, rfl⟩, fun j hj => upd_ne _ _ hj⟩)
end rest
end Go.Proofs.YtmbfdhekplnoaaaDoor
