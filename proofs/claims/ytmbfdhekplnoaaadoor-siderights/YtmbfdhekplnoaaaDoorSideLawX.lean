/-
  The law's closed fact (abreast), in company.
  side.Rights, where it refuses.
  The law SideRights in company, from its entry to its end.
-/
import Derived.Test.YtmbfdhekplnoaaaDoorSideRestX
import Derived.Test.YtmbfdhekplnoaaaDoorRights1X
import Derived.Test.YtmbfdhekplnoaaaDoorHandOutX
namespace Go.Proofs.YtmbfdhekplnoaaaDoor
open Go Go.Conc Go.RowKit Go.Conc.Lib Go.ConcR.Gen
open Go.ConcR (KK WgAt stA smA)

noncomputable def abOps : Array Oper := match Tryd.f4.body with
  | some (.seq _ (.seq (.region _ ops _) _)) => ops
  | _ => #[]
theorem restA_ok : okCodeB Tryd.prog (kA ++ kX) kGl (iaFunc Tryd.f4) restA = true := by kernel_rfl
theorem restA_res : resB (iaFunc Tryd.f4) Tryd.f4 = true := by kernel_rfl
section ab
variable {S R : List Nat} {A : Nat → Addr} {Sh O : Nat → Prop} {Stop : Stp} {Post : Value → World → Prop} {cs : List Frame} {c : Frame} {W0 : World}
set_option maxRecDepth 100000 in
set_option maxHeartbeats 4000000 in
theorem ab_in (lt : ∀ b, O b ∨ Sh b → b < W0.heap.size)
    (h : ∀ b4 b5 O' W, Stock O Sh W0 [(b5, .cells #[.int .i64 9] 3 (0, 0)), (b4, .cells #[.int .i64 0, .int .i64 3, .int .i64 0] 3 (0, 0))] O' W →
      Walks Tryd.prog true Sh Stop O' (G ((base 5).at ⟨#[.slice (some ⟨b4, 0, none⟩) 3 3, .int .u64 1, .int .i64 2, .slice (some ⟨b5, 0, none⟩) 1 1, .int .i64 2] ++ Array.replicate (Tryd.f5.ntmps - 5) undef, []⟩ [.code (Tryd.f5.body.getD .skip)])
        ((base 4).at ⟨#[.bool false, undef, undef, undef, .slice (some ⟨b4, 0, none⟩) 3 3, .slice (some ⟨b5, 0, none⟩) 1 1, undef, undef, undef, undef, undef, undef, undef, undef, undef, undef, undef, undef, undef, undef, undef, undef, undef], []⟩ [.inRegion abOps [2, 3, 4, 5, 6, 7], .code restA] :: cs)) W) :
    Walks Tryd.prog true Sh Stop O (G ((base 4).at ⟨Array.replicate Tryd.f4.ntmps undef, []⟩ [.code (Tryd.f4.body.getD .skip)]) cs) W0 := by
  have hS := Stock.begin (O := O) (Sh := Sh) (W := W0) lt
  walk_nrmf Tryd.f4
  refine Walks.idle rfl (fun _ => stepG_seq) ?_
  refine Walks.idle rfl (fun _ => stepG_region) ?_
  simp only [List.size_toArray, List.length_cons, List.length_nil, Nat.zero_add, List.range, List.range.loop]
  refine walks_goes rfl (fun W1 hr => ?_)
  replace hS := hS.rely hr
  clear hr
  refine goes_oper_k rfl rfl (by k_ne) (fun K' hK => ?_)
  go_simp
  refine hK _ _ ⟨_, guar_none (fun e he => by have hm := mem_listed he; simp [go_sem, *] at hm), ?_⟩
  clear hK K'
  refine Walks.idle rfl (fun _ => stepG_region_end) ?_
  refine Walks.idle rfl (fun _ => stepG_seq) ?_
  refine Walks.idle rfl (fun _ => stepG_region) ?_
  simp only [List.size_toArray, List.length_cons, List.length_nil, Nat.reduceAdd, Nat.zero_add, List.range, List.range.loop]
  refine walks_goes rfl (fun W1 hr => ?_)
  replace hS := hS.rely hr
  clear hr
  refine goes_oper_k rfl rfl (by k_ne) (fun K' hK => ?_)
  go_simp
  refine hK _ _ ⟨_, guar_alloc (fun e he => by have hm := mem_listed he; simp [go_sem, *] at hm), ?_⟩
  clear hK K'
  replace hS := hS.alloc (.cells #[.int .i64 0, .int .i64 3, .int .i64 0] 3 (0, 0))
  generalize W1.heap.size = b4 at *
  generalize W1.alloc (.cells #[.int .i64 0, .int .i64 3, .int .i64 0] 3 (0, 0)) = W2 at *
  clear W1
  refine walks_goes rfl (fun W1 hr => ?_)
  replace hS := hS.rely hr
  clear hr
  refine goes_oper_k rfl rfl (by k_ne) (fun K' hK => ?_)
  go_simp
  refine hK _ _ ⟨_, guar_alloc (fun e he => by have hm := mem_listed he; simp [go_sem, *] at hm), ?_⟩
  clear hK K'
  replace hS := hS.alloc (.cells #[.int .i64 9] 3 (0, 0))
  generalize W1.heap.size = b5 at *
  generalize W1.alloc (.cells #[.int .i64 9] 3 (0, 0)) = W2 at *
  clear W1
  refine walks_goes rfl (fun W1 hr => ?_)
  replace hS := hS.rely hr
  clear hr
  refine goes_call rfl rfl (by k_ne) rfl Tryd.func5 (by kernel_rfl) rfl ⟨_, Guar.refl _ _ _, ?_⟩
  refine (h b4 b5 _ _ hS).to ?_
  simp [abOps, restA, Tryd.f4, Tryd.f5, Act.eval]
set_option maxRecDepth 100000 in
set_option maxHeartbeats 4000000 in
theorem ab_tail (H : House W0 S R A) (hS : ∀ b, S.elem b = true → Sh b) {b4 b5 : Nat} {s e : Value} {W : World} (hm : RtMade Sh A 3 mid3 1 2 1 (fun _ => 9) s e S R O W) (hr0 : Rely (fun _ => False) Sh W0 W)
    (h : ∀ O' W, Rely (fun _ => False) Sh W0 W → (∀ b, O' b ∨ Sh b → b < W.heap.size) → Walks Tryd.prog true Sh (Ends Tryd.prog Sh Post) O' (G (c.finish (.bool true)) cs) W) :
    Walks Tryd.prog true Sh (Ends Tryd.prog Sh Post) O (G ((base 4).at ((⟨#[.bool false, undef, undef, undef, .slice (some ⟨b4, 0, none⟩) 3 3, .slice (some ⟨b5, 0, none⟩) 1 1, undef, undef, undef, undef, undef, undef, undef, undef, undef, undef, undef, undef, undef, undef, undef, undef, undef], []⟩ : Act).put ((abOps[2]?).bind (·.dst)) (.tuple #[s, e])) [.inRegion abOps [3, 4, 5, 6, 7], .code restA]) (c :: cs)) W := by
  have hF : RtMade Sh A 3 mid3 1 2 1 (fun _ => 9) s e S R O W ∧ Rely (fun _ => False) Sh W0 W := ⟨hm, hr0⟩
  have step : ∀ {W1 W2}, RtMade Sh A 3 mid3 1 2 1 (fun _ => 9) s e S R O W1 ∧ Rely (fun _ => False) Sh W0 W1 → Rely O Sh W1 W2 → RtMade Sh A 3 mid3 1 2 1 (fun _ => 9) s e S R O W2 ∧ Rely (fun _ => False) Sh W0 W2 := fun h r => ⟨h.1.rely hS r, h.2.trans r.less⟩
  clear hm hr0
  simp only [abOps, Tryd.f4]
  walk_nrm
  refine walks_goes rfl (fun W1 hr => ?_)
  replace hF := step hF hr
  clear hr
  refine goes_oper_k rfl rfl (by k_ne) (fun K' hK => ?_)
  go_simp
  refine hK _ _ ⟨_, guar_none (fun e he => by have hm := mem_listed he; simp [go_sem, *] at hm), ?_⟩
  clear hK K'
  refine walks_goes rfl (fun W1 hr => ?_)
  replace hF := step hF hr
  clear hr
  refine goes_oper_k rfl rfl (by k_ne) (fun K' hK => ?_)
  go_simp
  refine hK _ _ ⟨_, guar_none (fun e he => by have hm := mem_listed he; simp [go_sem, *] at hm), ?_⟩
  clear hK K'
  refine walks_goes rfl (fun W1 hr => ?_)
  replace hF := step hF hr
  clear hr
  refine goes_oper_k rfl rfl (by k_ne) (fun K' hK => ?_)
  go_simp
  refine hK _ _ ⟨_, guar_none (fun e he => by have hm := mem_listed he; simp [go_sem, *] at hm), ?_⟩
  clear hK K'
  refine walks_goes rfl (fun W1 hr => ?_)
  replace hF := step hF hr
  clear hr
  refine goes_oper_k rfl rfl (by k_ne) (fun K' hK => ?_)
  go_simp
  refine hK _ _ ⟨_, guar_none (fun e he => by have hm := mem_listed he; simp [go_sem, *] at hm), ?_⟩
  clear hK K'
  refine walks_goes rfl (fun W1 hr => ?_)
  replace hF := step hF hr
  clear hr
  refine goes_oper_k rfl rfl (by k_ne) (fun K' hK => ?_)
  go_simp
  refine hK _ _ ⟨_, guar_none (fun e he => by have hm := mem_listed he; simp [go_sem, *] at hm), ?_⟩
  clear hK K'
  refine Walks.idle rfl (fun _ => stepG_region_end) ?_
  obtain ⟨⟨bl, h1, h2, h3⟩, hr0⟩ := hF
  have HW := H.keep fun b hb => hr0.keep b (H.lt hb) (.inr (hS b hb))
  have H2 := HW.add (l := bl) fun b hb => (h1 b hb).imp And.right id
  have fine : LvFine 3 mid3 2 9 := ⟨by decide, mid3_weights, by decide⟩
  have h2' : AllMade A 3 mid3 1 2 1 (fun _ => 9) s e (bl ++ S) R W1 := ⟨h2.1, fun x k q e => ⟨elem_app.2 (.inl (by simpa using (h2.2.1 x k q e).1)), fun j hj y k' q' z => elem_app.2 (.inl (by simpa using (h2.2.1 x k q e).2 j hj y k' q' z))⟩, fun m e => ⟨elem_app.2 (.inl (by simpa using (h2.2.2 m e).1)), (h2.2.2 m e).2⟩⟩
  obtain ⟨m, cap', rfl, rfl⟩ : ∃ m cap', s = .slice (some ⟨m, 0, none⟩) 1 cap' ∧ e = .nilIface := by
    rcases h2.1 with ⟨i0, i, m, p, g1, g2, g3, g4, _⟩ | ⟨_, m, cap', g1, g2, _⟩
    · exact (fine.no g4).elim
    · exact ⟨m, cap', g1, g2⟩
  have vs := (h2'.lone (F := fun _ => false) (T := fun _ _ => 0) H2).2.1
  refine Kin.restW (k := kin) (W := W1) (S := bl ++ S) (R := R) H2.gl H2.shared H2.size (a := (base 4).at ⟨#[.bool false, .slice (some ⟨m, 0, none⟩) 1 cap', .nilIface, undef, undef, undef, undef, undef, .nilIface, undef, undef, undef, undef, undef, undef, undef, undef, undef, undef, undef, undef, undef, undef], []⟩ [.code restA])
    (fr_mid Tryd.func4 restA_ok restA_res ?_) (fr_mid Tryd.func4 restA_ok restA_res ?_) (Q := fun _ e _ => e = .returned (.bool true)) (fun F hF => ?_) (fun b hb => ?_) h3 c cs (fun N v W' hN hr hc => ?_)
  · exact ⟨.bool _, vs, .nilIface, .junk rfl, .junk rfl, .junk rfl, .junk rfl, .junk rfl, .nilIface, SL.undefs 14⟩
  · exact ⟨.bool _, vs, .nilIface, VR.undef, VR.undef, VR.undef, VR.undef, VR.undef, .nilIface, SL.undefs 14⟩
  · refine Returns.of_wp Tryd.func4 (fun T => ?_) fun e w q => ⟨_, q⟩
    rcases (h2'.lone (F := F) (T := T) H2).1 with ⟨i0, i, m, p, g1, g2, g3, g4, _⟩ | ⟨_, m', c', g1, g2, _, g4⟩
    · exact (fine.no g4).elim
    · cases g1
      obtain ⟨mj, cj, K, k1, k2, k3, k4⟩ := g4 0 (by omega)
      exact wp_to (rest_of m cap' mj cj K (hide fun r hr => mid3_turn (k4 r hr)) _ k1 k2 (hide k3) undef undef undef undef undef .nilIface) fun e w q => q.1
  · rcases elem_app.1 hb with q | q
    · exact (h1 b q).elim (fun z => .inr z.1) fun z => .inl (hS b z)
    · exact .inl (hS b q)
  · obtain ⟨F, hF, u, w, ρ, hc⟩ := hc
    obtain ⟨T, D, q⟩ := hc.q
    cases q
    have e : v = .bool true := by have := hc.v; cases this; rfl
    subst e
    refine h _ W' (hr0.trans hr.less) fun b z => ?_
    rcases z with (z | z) | z
    · exact (hN b z).2
    · exact Nat.lt_of_lt_of_le (h3 b (.inl z)) hr.size
    · exact Nat.lt_of_lt_of_le (h3 b (.inr z)) hr.size
theorem abreast_call (H : House W0 S R A) (hS : ∀ b, S.elem b = true → Sh b) (lt : ∀ b, O b ∨ Sh b → b < W0.heap.size)
    (h : ∀ O' W, Rely (fun _ => False) Sh W0 W → (∀ b, O' b ∨ Sh b → b < W.heap.size) → Walks Tryd.prog true Sh (Ends Tryd.prog Sh Post) O' (G (c.finish (.bool true)) cs) W) :
    Walks Tryd.prog true Sh (Ends Tryd.prog Sh Post) O (G ((base 4).at ⟨Array.replicate Tryd.f4.ntmps undef, []⟩ [.code (Tryd.f4.body.getD .skip)]) (c :: cs)) W0 := by
  refine ab_in lt fun b4 b5 O' W hK => ?_
  have m4 := hK.at_ _ (.tail _ (.head _))
  have m5 := hK.at_ _ (.head _)
  simp only at m4 m5
  have HW := H.keep fun b hb => hK.r.keep b (H.lt hb) (.inr (hS b hb))
  have l4 : b4 < W.heap.size := hK.size (.tail _ (.head _))
  have l5 : b5 < W.heap.size := hK.size (.head _)
  refine rights_all (X := [b4, b5]) (seed := 1) (wk := 2) (Wt := mid3) (Lv := fun _ => 9) HW hS (fun b hb => ?_) (fun b q => ?_) (by decide) (by omega) (by omega) (by omega) (fun x e => ?_) (fun x e => ?_) (.inr ⟨b4, 0, rfl, l4, fun i hi => ?_⟩) (.inr ⟨b5, 0, rfl, l5, fun i hi => ?_⟩) fun O2 s e W2 hm hr => ab_tail H hS hm (hK.r.less.trans hr) h
  · simp only [List.mem_cons, List.not_mem_nil, or_false] at hb
    rcases hb with rfl | rfl
    · exact ⟨(hK.own _).2 (.inr ⟨_, .tail _ (.head _)⟩), _, _, m4⟩
    · exact ⟨(hK.own _).2 (.inr ⟨_, .head _⟩), _, _, m5⟩
  · rcases q with q | q
    · rcases (hK.own b).1 q with z | ⟨o, z⟩
      · exact Nat.lt_of_lt_of_le (lt b (.inl z)) hK.r.size
      · exact hK.size z
    · exact Nat.lt_of_lt_of_le (lt b (.inr q)) hK.r.size
  · cases e; simp
  · cases e; simp
  · have : i = 0 ∨ i = 1 ∨ i = 2 := by omega
    rcases this with rfl | rfl | rfl <;> simp [World.cell?, m4, mid3]
  · obtain rfl : i = 0 := by omega
    simp [World.cell?, m5]
end ab
end Go.Proofs.YtmbfdhekplnoaaaDoor

namespace Go.Proofs.YtmbfdhekplnoaaaDoor
open Go Go.Conc Go.RowKit Go.Conc.Lib Go.ConcR.Gen
open Go.ConcR (KK WgAt stA smA)

section of
variable {Sh O : Nat → Prop} {Stop : Stp} {cs : List Frame} {wp lp : Option Addr} {wl wc ll lc : Nat} {seed cycle : Int} {wk : Int} {W0 : World} {b₀ : Frame} {a₀ : Act} {ops₀ : Array Oper} {i₀ : Nat} {rest₀ : List Nat} {k₀ : List Item}
structure ErrAt' (Sh O : Nat → Prop) (W0 : World) (g : Nat) (e : Value) : Prop where
  sh : Sh g
  at_ : W0.cell? ⟨g, 0, none⟩ = some e
  ne : ∀ w, (binOp .neq 27 e .nilIface).run Tryd.prog w = .ok (.bool true) w
  ev : ∀ w es, (binOp .neq 27 e .nilIface).events Tryd.prog w es = es
  gr : ∀ x y w, (eqGuard .neq 27 x y e .nilIface).run Tryd.prog w = .ok () w
  ge : ∀ x y w es, (eqGuard .neq 27 x y e .nilIface).events Tryd.prog w es = es
set_option maxRecDepth 100000 in
set_option maxHeartbeats 4000000 in
theorem rights_few (hwk : wk < 1) {e : Value} (he : ErrAt' Sh O W0 0 e) (lt : ∀ b, O b ∨ Sh b → b < W0.heap.size)
    (h : ∀ L O' W, Stock O Sh W0 L O' W → Walks Tryd.prog true Sh Stop O' (G (b₀.at (a₀.put ((ops₀[i₀]?).bind (·.dst)) (.tuple #[.slice none 0 0, e])) (.inRegion ops₀ rest₀ :: k₀)) cs) W) :
    Walks Tryd.prog true Sh Stop O (G ((base 5).at ⟨#[.slice wp wl wc, .int .u64 seed, .int .i64 cycle, .slice lp ll lc, .int .i64 wk] ++ Array.replicate (Tryd.f5.ntmps - 5) undef, []⟩ [.code (Tryd.f5.body.getD .skip)]) (b₀.at a₀ (.inRegion ops₀ (i₀ :: rest₀) :: k₀) :: cs)) W0 := by
  have hS := Stock.begin (O := O) (Sh := Sh) (W := W0) lt
  have e1 := he.ne
  have e2 := he.ev
  have e3 := he.gr
  have e4 := he.ge
  have q1 : decide (wk < 1) = true := decide_eq_true hwk
  walk_nrmf Tryd.f5
  refine Walks.idle rfl (fun _ => stepG_seq) ?_
  refine Walks.idle rfl (fun _ => stepG_region) ?_
  simp only [List.size_toArray, List.length_cons, List.length_nil, Nat.reduceAdd, Nat.zero_add, List.range, List.range.loop]
  refine walks_goes rfl (fun W1 hr => ?_)
  replace hS := hS.rely hr
  clear hr
  refine goes_oper_k rfl rfl (by k_ne) (fun K' hK => ?_)
  go_simp
  refine hK _ _ ⟨_, guar_alloc (fun e he => by have hm := mem_listed he; simp [go_sem, *] at hm), ?_⟩
  clear hK K'
  replace hS := hS.alloc (.cells #[.slice wp wl wc] 22 (0, 0))
  generalize W1.heap.size = b0 at *
  generalize W1.alloc (.cells #[.slice wp wl wc] 22 (0, 0)) = W2 at *
  clear W1
  refine walks_goes rfl (fun W1 hr => ?_)
  replace hS := hS.rely hr
  clear hr
  refine goes_oper_k rfl rfl (by k_ne) (fun K' hK => ?_)
  go_simp
  refine hK _ _ ⟨_, guar_alloc (fun e he => by have hm := mem_listed he; simp [go_sem, *] at hm), ?_⟩
  clear hK K'
  replace hS := hS.alloc (.cells #[.int .u64 seed] 23 (0, 0))
  generalize W1.heap.size = b1 at *
  generalize W1.alloc (.cells #[.int .u64 seed] 23 (0, 0)) = W2 at *
  clear W1
  refine walks_goes rfl (fun W1 hr => ?_)
  replace hS := hS.rely hr
  clear hr
  refine goes_oper_k rfl rfl (by k_ne) (fun K' hK => ?_)
  go_simp
  refine hK _ _ ⟨_, guar_alloc (fun e he => by have hm := mem_listed he; simp [go_sem, *] at hm), ?_⟩
  clear hK K'
  replace hS := hS.alloc (.cells #[.int .i64 cycle] 3 (0, 0))
  generalize W1.heap.size = b2 at *
  generalize W1.alloc (.cells #[.int .i64 cycle] 3 (0, 0)) = W2 at *
  clear W1
  refine walks_goes rfl (fun W1 hr => ?_)
  replace hS := hS.rely hr
  clear hr
  refine goes_oper_k rfl rfl (by k_ne) (fun K' hK => ?_)
  go_simp
  refine hK _ _ ⟨_, guar_alloc (fun e he => by have hm := mem_listed he; simp [go_sem, *] at hm), ?_⟩
  clear hK K'
  replace hS := hS.alloc (.cells #[.slice lp ll lc] 22 (0, 0))
  generalize W1.heap.size = b3 at *
  generalize W1.alloc (.cells #[.slice lp ll lc] 22 (0, 0)) = W2 at *
  clear W1
  refine walks_goes rfl (fun W1 hr => ?_)
  replace hS := hS.rely hr
  clear hr
  refine goes_oper_k rfl rfl (by k_ne) (fun K' hK => ?_)
  go_simp
  refine hK _ _ ⟨_, guar_none (fun e he => by have hm := mem_listed he; simp [go_sem, *] at hm), ?_⟩
  clear hK K'
  refine walks_goes rfl (fun W1 hr => ?_)
  replace hS := hS.rely hr
  clear hr
  refine goes_oper_k rfl rfl (by k_ne) (fun K' hK => ?_)
  go_simp
  refine hK _ _ ⟨_, guar_none (fun e he => by have hm := mem_listed he; simp [go_sem, *] at hm), ?_⟩
  clear hK K'
  refine Walks.idle rfl (fun _ => stepG_region_end) ?_
  refine Walks.idle rfl (fun _ => stepG_seq) ?_
  refine Walks.idle rfl (fun _ => stepG_seq) ?_
  refine Walks.idle rfl (fun _ => stepG_region) ?_
  simp only [List.size_toArray, List.length_cons, List.length_nil, Nat.reduceAdd, Nat.zero_add, List.range, List.range.loop]
  refine walks_goes rfl (fun W1 hr => ?_)
  replace hS := hS.rely hr
  clear hr
  obtain ⟨k0, g0⟩ := hS.cell (.head _)
  refine goes_oper_k rfl rfl (by k_ne) (fun K' hK => ?_)
  go_simp
  refine hK _ _ ⟨_, guar_reads (fun e he => ?_), ?_⟩
  · have hm := mem_listed he
    simp [go_sem, *] at hm
    subst hm
    exact ⟨_, rfl, .inl ((hS.own _).2 (.inr ⟨_, (.head _)⟩))⟩
  clear hK K' k0 g0
  refine walks_goes rfl (fun W1 hr => ?_)
  replace hS := hS.rely hr
  clear hr
  refine goes_oper_k rfl rfl (by k_ne) (fun K' hK => ?_)
  go_simp
  refine hK _ _ ⟨_, guar_none (fun e he => by have hm := mem_listed he; simp [go_sem, *] at hm), ?_⟩
  clear hK K'
  refine walks_goes rfl (fun W1 hr => ?_)
  replace hS := hS.rely hr
  clear hr
  refine goes_oper_k rfl rfl (by k_ne) (fun K' hK => ?_)
  go_simp
  refine hK _ _ ⟨_, guar_none (fun e he => by have hm := mem_listed he; simp [go_sem, *] at hm), ?_⟩
  clear hK K'
  refine walks_goes rfl (fun W1 hr => ?_)
  replace hS := hS.rely hr
  clear hr
  refine goes_call rfl rfl (by k_ne) rfl Tryd.func11 (by kernel_rfl) rfl ⟨_, Guar.refl _ _ _, ?_⟩
  walk_nrmf Tryd.f11
  refine Walks.idle rfl (fun _ => stepG_seq) ?_
  refine Walks.idle rfl (fun _ => stepG_region) ?_
  simp only [List.size_toArray, List.length_cons, List.length_nil, Nat.zero_add, List.range, List.range.loop]
  refine walks_goes rfl (fun W1 hr => ?_)
  replace hS := hS.rely hr
  clear hr
  refine goes_oper_k rfl rfl (by k_ne) (fun K' hK => ?_)
  go_simp
  refine hK _ _ ⟨_, guar_none (fun e he => by have hm := mem_listed he; simp [go_sem, *] at hm), ?_⟩
  clear hK K'
  refine Walks.idle rfl (fun _ => stepG_region_end) ?_
  refine Walks.idle rfl (fun _ => stepG_seq) ?_
  refine Walks.idle rfl (fun _ => stepG_seq) ?_
  refine Walks.idle rfl (fun _ => stepG_region) ?_
  simp only [List.size_toArray, List.length_cons, List.length_nil, Nat.reduceAdd, Nat.zero_add, List.range, List.range.loop]
  refine walks_goes rfl (fun W1 hr => ?_)
  replace hS := hS.rely hr
  clear hr
  refine goes_oper_k rfl rfl (by k_ne) (fun K' hK => ?_)
  go_simp
  refine hK _ _ ⟨_, guar_none (fun e he => by have hm := mem_listed he; simp [go_sem, *] at hm), ?_⟩
  clear hK K'
  refine walks_goes rfl (fun W1 hr => ?_)
  replace hS := hS.rely hr
  clear hr
  refine goes_oper_k rfl rfl (by k_ne) (fun K' hK => ?_)
  go_simp
  refine hK _ _ ⟨_, guar_none (fun e he => by have hm := mem_listed he; simp [go_sem, *] at hm), ?_⟩
  clear hK K'
  refine walks_goes rfl (fun W1 hr => ?_)
  replace hS := hS.rely hr
  clear hr
  refine goes_oper_k rfl rfl (by k_ne) (fun K' hK => ?_)
  go_simp
  refine hK _ _ ⟨_, guar_none (fun e he => by have hm := mem_listed he; simp [go_sem, *] at hm), ?_⟩
  clear hK K'
  refine Walks.idle rfl (fun _ => stepG_unwanted rfl rfl) ?_
  walk_nrm
  refine Walks.idle rfl (fun _ => stepG_unwanted rfl rfl) ?_
  walk_nrm
  refine walks_goes rfl (fun W1 hr => ?_)
  replace hS := hS.rely hr
  clear hr
  refine goes_oper_k rfl rfl (by k_ne) (fun K' hK => ?_)
  go_simp
  refine hK _ _ ⟨_, guar_none (fun e he => by have hm := mem_listed he; simp [go_sem, *] at hm), ?_⟩
  clear hK K'
  refine Walks.idle rfl (fun _ => stepG_region_end) ?_
  refine Walks.idle rfl (fun _ => stepG_cond (t := true) rfl) ?_
  simp only [if_true]
  refine Walks.idle rfl (fun _ => stepG_seq) ?_
  refine Walks.idle rfl (fun _ => stepG_region) ?_
  simp only [List.size_toArray, List.length_cons, List.length_nil, Nat.reduceAdd, Nat.zero_add, List.range, List.range.loop]
  refine walks_goes rfl (fun W1 hr => ?_)
  replace hS := hS.rely hr
  clear hr
  have kg : W1.cell? ⟨0, 0, none⟩ = some e := cell_rely (O := O) (Sh := Sh) hS.r (.inr he.sh) he.at_
  refine goes_oper_k rfl rfl (by k_ne) (fun K' hK => ?_)
  go_simp
  refine hK _ _ ⟨_, guar_reads (fun e he' => ?_), ?_⟩
  · have hm := mem_listed he'
    simp [go_sem, *] at hm
    subst hm
    exact ⟨_, rfl, .inr he.sh⟩
  clear hK K' kg
  refine walks_goes rfl (fun W1 hr => ?_)
  replace hS := hS.rely hr
  clear hr
  refine goes_oper_k rfl rfl (by k_ne) (fun K' hK => ?_)
  go_simp
  refine hK _ _ ⟨_, guar_none (fun e he => by have hm := mem_listed he; simp [go_sem, *] at hm), ?_⟩
  clear hK K'
  refine Walks.idle rfl (fun _ => stepG_region_end) ?_
  refine Walks.idle rfl (fun _ => stepG_ret') ?_
  refine walks_goes rfl (fun W1 hr => ?_)
  replace hS := hS.rely hr
  clear hr
  refine goes_leave1 rfl rfl Tryd.func11 rfl ⟨_, Guar.refl _ _ _, ?_⟩
  walk_nrm
  refine walks_goes rfl (fun W1 hr => ?_)
  replace hS := hS.rely hr
  clear hr
  refine goes_oper_k rfl rfl (by k_ne) (fun K' hK => ?_)
  go_simp
  refine hK _ _ ⟨_, guar_none (fun e he => by have hm := mem_listed he; simp [go_sem, *] at hm), ?_⟩
  clear hK K'
  refine Walks.idle rfl (fun _ => stepG_region_end) ?_
  refine Walks.idle rfl (fun _ => stepG_seq) ?_
  refine Walks.idle rfl (fun _ => stepG_region) ?_
  simp only [List.size_toArray, List.length_cons, List.length_nil, Nat.reduceAdd, Nat.zero_add, List.range, List.range.loop]
  refine walks_goes rfl (fun W1 hr => ?_)
  replace hS := hS.rely hr
  clear hr
  refine goes_oper_k rfl rfl (by k_ne) (fun K' hK => ?_)
  go_simp
  refine hK _ _ ⟨_, guar_none (fun e he => by have hm := mem_listed he; simp [go_sem, *] at hm), ?_⟩
  clear hK K'
  refine walks_goes rfl (fun W1 hr => ?_)
  replace hS := hS.rely hr
  clear hr
  refine goes_oper_k rfl rfl (by k_ne) (fun K' hK => ?_)
  go_simp
  refine hK _ _ ⟨_, guar_none (fun e he => by have hm := mem_listed he; simp [go_sem, *] at hm), ?_⟩
  clear hK K'
  refine Walks.idle rfl (fun _ => stepG_region_end) ?_
  refine Walks.idle rfl (fun _ => stepG_cond (t := true) rfl) ?_
  simp only [if_true]
  refine Walks.idle rfl (fun _ => stepG_seq) ?_
  refine Walks.idle rfl (fun _ => stepG_region) ?_
  simp only [List.size_toArray, List.length_cons, List.length_nil, Nat.reduceAdd, Nat.zero_add, List.range, List.range.loop]
  refine walks_goes rfl (fun W1 hr => ?_)
  replace hS := hS.rely hr
  clear hr
  refine goes_oper_k rfl rfl (by k_ne) (fun K' hK => ?_)
  go_simp
  refine hK _ _ ⟨_, guar_none (fun e he => by have hm := mem_listed he; simp [go_sem, *] at hm), ?_⟩
  clear hK K'
  refine walks_goes rfl (fun W1 hr => ?_)
  replace hS := hS.rely hr
  clear hr
  refine goes_oper_k rfl rfl (by k_ne) (fun K' hK => ?_)
  go_simp
  refine hK _ _ ⟨_, guar_none (fun e he => by have hm := mem_listed he; simp [go_sem, *] at hm), ?_⟩
  clear hK K'
  refine walks_goes rfl (fun W1 hr => ?_)
  replace hS := hS.rely hr
  clear hr
  refine goes_oper_k rfl rfl (by k_ne) (fun K' hK => ?_)
  go_simp
  refine hK _ _ ⟨_, guar_none (fun e he => by have hm := mem_listed he; simp [go_sem, *] at hm), ?_⟩
  clear hK K'
  refine Walks.idle rfl (fun _ => stepG_region_end) ?_
  refine Walks.idle rfl (fun _ => stepG_ret') ?_
  refine walks_goes rfl (fun W1 hr => ?_)
  replace hS := hS.rely hr
  clear hr
  refine goes_leave2 rfl rfl Tryd.func5 rfl ⟨_, Guar.refl _ _ _, ?_⟩
  exact (h _ _ W1 hS).to (by simp)
set_option maxRecDepth 100000 in
set_option maxHeartbeats 4000000 in
theorem rights_many (hwk : 16 < wk) {e : Value} (he : ErrAt' Sh O W0 0 e) (lt : ∀ b, O b ∨ Sh b → b < W0.heap.size)
    (h : ∀ L O' W, Stock O Sh W0 L O' W → Walks Tryd.prog true Sh Stop O' (G (b₀.at (a₀.put ((ops₀[i₀]?).bind (·.dst)) (.tuple #[.slice none 0 0, e])) (.inRegion ops₀ rest₀ :: k₀)) cs) W) :
    Walks Tryd.prog true Sh Stop O (G ((base 5).at ⟨#[.slice wp wl wc, .int .u64 seed, .int .i64 cycle, .slice lp ll lc, .int .i64 wk] ++ Array.replicate (Tryd.f5.ntmps - 5) undef, []⟩ [.code (Tryd.f5.body.getD .skip)]) (b₀.at a₀ (.inRegion ops₀ (i₀ :: rest₀) :: k₀) :: cs)) W0 := by
  have hS := Stock.begin (O := O) (Sh := Sh) (W := W0) lt
  have e1 := he.ne
  have e2 := he.ev
  have e3 := he.gr
  have e4 := he.ge
  have q1 : ¬ wk < 1 := by omega
  walk_nrmf Tryd.f5
  refine Walks.idle rfl (fun _ => stepG_seq) ?_
  refine Walks.idle rfl (fun _ => stepG_region) ?_
  simp only [List.size_toArray, List.length_cons, List.length_nil, Nat.reduceAdd, Nat.zero_add, List.range, List.range.loop]
  refine walks_goes rfl (fun W1 hr => ?_)
  replace hS := hS.rely hr
  clear hr
  refine goes_oper_k rfl rfl (by k_ne) (fun K' hK => ?_)
  go_simp
  refine hK _ _ ⟨_, guar_alloc (fun e he => by have hm := mem_listed he; simp [go_sem, *] at hm), ?_⟩
  clear hK K'
  replace hS := hS.alloc (.cells #[.slice wp wl wc] 22 (0, 0))
  generalize W1.heap.size = b0 at *
  generalize W1.alloc (.cells #[.slice wp wl wc] 22 (0, 0)) = W2 at *
  clear W1
  refine walks_goes rfl (fun W1 hr => ?_)
  replace hS := hS.rely hr
  clear hr
  refine goes_oper_k rfl rfl (by k_ne) (fun K' hK => ?_)
  go_simp
  refine hK _ _ ⟨_, guar_alloc (fun e he => by have hm := mem_listed he; simp [go_sem, *] at hm), ?_⟩
  clear hK K'
  replace hS := hS.alloc (.cells #[.int .u64 seed] 23 (0, 0))
  generalize W1.heap.size = b1 at *
  generalize W1.alloc (.cells #[.int .u64 seed] 23 (0, 0)) = W2 at *
  clear W1
  refine walks_goes rfl (fun W1 hr => ?_)
  replace hS := hS.rely hr
  clear hr
  refine goes_oper_k rfl rfl (by k_ne) (fun K' hK => ?_)
  go_simp
  refine hK _ _ ⟨_, guar_alloc (fun e he => by have hm := mem_listed he; simp [go_sem, *] at hm), ?_⟩
  clear hK K'
  replace hS := hS.alloc (.cells #[.int .i64 cycle] 3 (0, 0))
  generalize W1.heap.size = b2 at *
  generalize W1.alloc (.cells #[.int .i64 cycle] 3 (0, 0)) = W2 at *
  clear W1
  refine walks_goes rfl (fun W1 hr => ?_)
  replace hS := hS.rely hr
  clear hr
  refine goes_oper_k rfl rfl (by k_ne) (fun K' hK => ?_)
  go_simp
  refine hK _ _ ⟨_, guar_alloc (fun e he => by have hm := mem_listed he; simp [go_sem, *] at hm), ?_⟩
  clear hK K'
  replace hS := hS.alloc (.cells #[.slice lp ll lc] 22 (0, 0))
  generalize W1.heap.size = b3 at *
  generalize W1.alloc (.cells #[.slice lp ll lc] 22 (0, 0)) = W2 at *
  clear W1
  refine walks_goes rfl (fun W1 hr => ?_)
  replace hS := hS.rely hr
  clear hr
  refine goes_oper_k rfl rfl (by k_ne) (fun K' hK => ?_)
  go_simp
  refine hK _ _ ⟨_, guar_none (fun e he => by have hm := mem_listed he; simp [go_sem, *] at hm), ?_⟩
  clear hK K'
  refine walks_goes rfl (fun W1 hr => ?_)
  replace hS := hS.rely hr
  clear hr
  refine goes_oper_k rfl rfl (by k_ne) (fun K' hK => ?_)
  go_simp
  refine hK _ _ ⟨_, guar_none (fun e he => by have hm := mem_listed he; simp [go_sem, *] at hm), ?_⟩
  clear hK K'
  refine Walks.idle rfl (fun _ => stepG_region_end) ?_
  refine Walks.idle rfl (fun _ => stepG_seq) ?_
  refine Walks.idle rfl (fun _ => stepG_seq) ?_
  refine Walks.idle rfl (fun _ => stepG_region) ?_
  simp only [List.size_toArray, List.length_cons, List.length_nil, Nat.reduceAdd, Nat.zero_add, List.range, List.range.loop]
  refine walks_goes rfl (fun W1 hr => ?_)
  replace hS := hS.rely hr
  clear hr
  obtain ⟨k0, g0⟩ := hS.cell (.head _)
  refine goes_oper_k rfl rfl (by k_ne) (fun K' hK => ?_)
  go_simp
  refine hK _ _ ⟨_, guar_reads (fun e he => ?_), ?_⟩
  · have hm := mem_listed he
    simp [go_sem, *] at hm
    subst hm
    exact ⟨_, rfl, .inl ((hS.own _).2 (.inr ⟨_, (.head _)⟩))⟩
  clear hK K' k0 g0
  refine walks_goes rfl (fun W1 hr => ?_)
  replace hS := hS.rely hr
  clear hr
  refine goes_oper_k rfl rfl (by k_ne) (fun K' hK => ?_)
  go_simp
  refine hK _ _ ⟨_, guar_none (fun e he => by have hm := mem_listed he; simp [go_sem, *] at hm), ?_⟩
  clear hK K'
  refine walks_goes rfl (fun W1 hr => ?_)
  replace hS := hS.rely hr
  clear hr
  refine goes_oper_k rfl rfl (by k_ne) (fun K' hK => ?_)
  go_simp
  refine hK _ _ ⟨_, guar_none (fun e he => by have hm := mem_listed he; simp [go_sem, *] at hm), ?_⟩
  clear hK K'
  refine walks_goes rfl (fun W1 hr => ?_)
  replace hS := hS.rely hr
  clear hr
  refine goes_call rfl rfl (by k_ne) rfl Tryd.func11 (by kernel_rfl) rfl ⟨_, Guar.refl _ _ _, ?_⟩
  walk_nrmf Tryd.f11
  refine Walks.idle rfl (fun _ => stepG_seq) ?_
  refine Walks.idle rfl (fun _ => stepG_region) ?_
  simp only [List.size_toArray, List.length_cons, List.length_nil, Nat.zero_add, List.range, List.range.loop]
  refine walks_goes rfl (fun W1 hr => ?_)
  replace hS := hS.rely hr
  clear hr
  refine goes_oper_k rfl rfl (by k_ne) (fun K' hK => ?_)
  go_simp
  refine hK _ _ ⟨_, guar_none (fun e he => by have hm := mem_listed he; simp [go_sem, *] at hm), ?_⟩
  clear hK K'
  refine Walks.idle rfl (fun _ => stepG_region_end) ?_
  refine Walks.idle rfl (fun _ => stepG_seq) ?_
  refine Walks.idle rfl (fun _ => stepG_seq) ?_
  refine Walks.idle rfl (fun _ => stepG_region) ?_
  simp only [List.size_toArray, List.length_cons, List.length_nil, Nat.reduceAdd, Nat.zero_add, List.range, List.range.loop]
  refine walks_goes rfl (fun W1 hr => ?_)
  replace hS := hS.rely hr
  clear hr
  refine goes_oper_k rfl rfl (by k_ne) (fun K' hK => ?_)
  go_simp
  refine hK _ _ ⟨_, guar_none (fun e he => by have hm := mem_listed he; simp [go_sem, *] at hm), ?_⟩
  clear hK K'
  refine walks_goes rfl (fun W1 hr => ?_)
  replace hS := hS.rely hr
  clear hr
  refine goes_oper_k rfl rfl (by k_ne) (fun K' hK => ?_)
  go_simp
  refine hK _ _ ⟨_, guar_none (fun e he => by have hm := mem_listed he; simp [go_sem, *] at hm), ?_⟩
  clear hK K'
  refine walks_goes rfl (fun W1 hr => ?_)
  replace hS := hS.rely hr
  clear hr
  refine goes_oper_k rfl rfl (by k_ne) (fun K' hK => ?_)
  go_simp
  refine hK _ _ ⟨_, guar_none (fun e he => by have hm := mem_listed he; simp [go_sem, *] at hm), ?_⟩
  clear hK K'
  refine walks_goes rfl (fun W1 hr => ?_)
  replace hS := hS.rely hr
  clear hr
  refine goes_oper_k rfl rfl (by k_ne) (fun K' hK => ?_)
  go_simp
  refine hK _ _ ⟨_, guar_none (fun e he => by have hm := mem_listed he; simp [go_sem, *] at hm), ?_⟩
  clear hK K'
  refine walks_goes rfl (fun W1 hr => ?_)
  replace hS := hS.rely hr
  clear hr
  refine goes_oper_k rfl rfl (by k_ne) (fun K' hK => ?_)
  go_simp
  refine hK _ _ ⟨_, guar_none (fun e he => by have hm := mem_listed he; simp [go_sem, *] at hm), ?_⟩
  clear hK K'
  refine walks_goes rfl (fun W1 hr => ?_)
  replace hS := hS.rely hr
  clear hr
  refine goes_oper_k rfl rfl (by k_ne) (fun K' hK => ?_)
  go_simp
  refine hK _ _ ⟨_, guar_none (fun e he => by have hm := mem_listed he; simp [go_sem, *] at hm), ?_⟩
  clear hK K'
  refine Walks.idle rfl (fun _ => stepG_region_end) ?_
  refine Walks.idle rfl (fun _ => stepG_cond (t := true) rfl) ?_
  simp only [if_true]
  refine Walks.idle rfl (fun _ => stepG_seq) ?_
  refine Walks.idle rfl (fun _ => stepG_region) ?_
  simp only [List.size_toArray, List.length_cons, List.length_nil, Nat.reduceAdd, Nat.zero_add, List.range, List.range.loop]
  refine walks_goes rfl (fun W1 hr => ?_)
  replace hS := hS.rely hr
  clear hr
  have kg : W1.cell? ⟨0, 0, none⟩ = some e := cell_rely (O := O) (Sh := Sh) hS.r (.inr he.sh) he.at_
  refine goes_oper_k rfl rfl (by k_ne) (fun K' hK => ?_)
  go_simp
  refine hK _ _ ⟨_, guar_reads (fun e he' => ?_), ?_⟩
  · have hm := mem_listed he'
    simp [go_sem, *] at hm
    subst hm
    exact ⟨_, rfl, .inr he.sh⟩
  clear hK K' kg
  refine walks_goes rfl (fun W1 hr => ?_)
  replace hS := hS.rely hr
  clear hr
  refine goes_oper_k rfl rfl (by k_ne) (fun K' hK => ?_)
  go_simp
  refine hK _ _ ⟨_, guar_none (fun e he => by have hm := mem_listed he; simp [go_sem, *] at hm), ?_⟩
  clear hK K'
  refine Walks.idle rfl (fun _ => stepG_region_end) ?_
  refine Walks.idle rfl (fun _ => stepG_ret') ?_
  refine walks_goes rfl (fun W1 hr => ?_)
  replace hS := hS.rely hr
  clear hr
  refine goes_leave1 rfl rfl Tryd.func11 rfl ⟨_, Guar.refl _ _ _, ?_⟩
  walk_nrm
  refine walks_goes rfl (fun W1 hr => ?_)
  replace hS := hS.rely hr
  clear hr
  refine goes_oper_k rfl rfl (by k_ne) (fun K' hK => ?_)
  go_simp
  refine hK _ _ ⟨_, guar_none (fun e he => by have hm := mem_listed he; simp [go_sem, *] at hm), ?_⟩
  clear hK K'
  refine Walks.idle rfl (fun _ => stepG_region_end) ?_
  refine Walks.idle rfl (fun _ => stepG_seq) ?_
  refine Walks.idle rfl (fun _ => stepG_region) ?_
  simp only [List.size_toArray, List.length_cons, List.length_nil, Nat.reduceAdd, Nat.zero_add, List.range, List.range.loop]
  refine walks_goes rfl (fun W1 hr => ?_)
  replace hS := hS.rely hr
  clear hr
  refine goes_oper_k rfl rfl (by k_ne) (fun K' hK => ?_)
  go_simp
  refine hK _ _ ⟨_, guar_none (fun e he => by have hm := mem_listed he; simp [go_sem, *] at hm), ?_⟩
  clear hK K'
  refine walks_goes rfl (fun W1 hr => ?_)
  replace hS := hS.rely hr
  clear hr
  refine goes_oper_k rfl rfl (by k_ne) (fun K' hK => ?_)
  go_simp
  refine hK _ _ ⟨_, guar_none (fun e he => by have hm := mem_listed he; simp [go_sem, *] at hm), ?_⟩
  clear hK K'
  refine Walks.idle rfl (fun _ => stepG_region_end) ?_
  refine Walks.idle rfl (fun _ => stepG_cond (t := true) rfl) ?_
  simp only [if_true]
  refine Walks.idle rfl (fun _ => stepG_seq) ?_
  refine Walks.idle rfl (fun _ => stepG_region) ?_
  simp only [List.size_toArray, List.length_cons, List.length_nil, Nat.reduceAdd, Nat.zero_add, List.range, List.range.loop]
  refine walks_goes rfl (fun W1 hr => ?_)
  replace hS := hS.rely hr
  clear hr
  refine goes_oper_k rfl rfl (by k_ne) (fun K' hK => ?_)
  go_simp
  refine hK _ _ ⟨_, guar_none (fun e he => by have hm := mem_listed he; simp [go_sem, *] at hm), ?_⟩
  clear hK K'
  refine walks_goes rfl (fun W1 hr => ?_)
  replace hS := hS.rely hr
  clear hr
  refine goes_oper_k rfl rfl (by k_ne) (fun K' hK => ?_)
  go_simp
  refine hK _ _ ⟨_, guar_none (fun e he => by have hm := mem_listed he; simp [go_sem, *] at hm), ?_⟩
  clear hK K'
  refine walks_goes rfl (fun W1 hr => ?_)
  replace hS := hS.rely hr
  clear hr
  refine goes_oper_k rfl rfl (by k_ne) (fun K' hK => ?_)
  go_simp
  refine hK _ _ ⟨_, guar_none (fun e he => by have hm := mem_listed he; simp [go_sem, *] at hm), ?_⟩
  clear hK K'
  refine Walks.idle rfl (fun _ => stepG_region_end) ?_
  refine Walks.idle rfl (fun _ => stepG_ret') ?_
  refine walks_goes rfl (fun W1 hr => ?_)
  replace hS := hS.rely hr
  clear hr
  refine goes_leave2 rfl rfl Tryd.func5 rfl ⟨_, Guar.refl _ _ _, ?_⟩
  exact (h _ _ W1 hS).to (by simp)
set_option maxRecDepth 100000 in
set_option maxHeartbeats 4000000 in
theorem rights_long (hwk : 1 ≤ wk ∧ wk ≤ 16) (hll : 100 < ll) {e : Value} (he : ErrAt' Sh O W0 1 e) (lt : ∀ b, O b ∨ Sh b → b < W0.heap.size)
    (h : ∀ L O' W, Stock O Sh W0 L O' W → Walks Tryd.prog true Sh Stop O' (G (b₀.at (a₀.put ((ops₀[i₀]?).bind (·.dst)) (.tuple #[.slice none 0 0, e])) (.inRegion ops₀ rest₀ :: k₀)) cs) W) :
    Walks Tryd.prog true Sh Stop O (G ((base 5).at ⟨#[.slice wp wl wc, .int .u64 seed, .int .i64 cycle, .slice lp ll lc, .int .i64 wk] ++ Array.replicate (Tryd.f5.ntmps - 5) undef, []⟩ [.code (Tryd.f5.body.getD .skip)]) (b₀.at a₀ (.inRegion ops₀ (i₀ :: rest₀) :: k₀) :: cs)) W0 := by
  have hS := Stock.begin (O := O) (Sh := Sh) (W := W0) lt
  have e1 := he.ne
  have e2 := he.ev
  have e3 := he.gr
  have e4 := he.ge
  have q1 : ¬ wk < 1 := by omega
  have q2 : ¬ (16 : Int) < wk := by omega
  have q3 : (100 : Int) < ((ll : Nat) : Int) := by omega
  walk_nrmf Tryd.f5
  refine Walks.idle rfl (fun _ => stepG_seq) ?_
  refine Walks.idle rfl (fun _ => stepG_region) ?_
  simp only [List.size_toArray, List.length_cons, List.length_nil, Nat.reduceAdd, Nat.zero_add, List.range, List.range.loop]
  refine walks_goes rfl (fun W1 hr => ?_)
  replace hS := hS.rely hr
  clear hr
  refine goes_oper_k rfl rfl (by k_ne) (fun K' hK => ?_)
  go_simp
  refine hK _ _ ⟨_, guar_alloc (fun e he => by have hm := mem_listed he; simp [go_sem, *] at hm), ?_⟩
  clear hK K'
  replace hS := hS.alloc (.cells #[.slice wp wl wc] 22 (0, 0))
  generalize W1.heap.size = b0 at *
  generalize W1.alloc (.cells #[.slice wp wl wc] 22 (0, 0)) = W2 at *
  clear W1
  refine walks_goes rfl (fun W1 hr => ?_)
  replace hS := hS.rely hr
  clear hr
  refine goes_oper_k rfl rfl (by k_ne) (fun K' hK => ?_)
  go_simp
  refine hK _ _ ⟨_, guar_alloc (fun e he => by have hm := mem_listed he; simp [go_sem, *] at hm), ?_⟩
  clear hK K'
  replace hS := hS.alloc (.cells #[.int .u64 seed] 23 (0, 0))
  generalize W1.heap.size = b1 at *
  generalize W1.alloc (.cells #[.int .u64 seed] 23 (0, 0)) = W2 at *
  clear W1
  refine walks_goes rfl (fun W1 hr => ?_)
  replace hS := hS.rely hr
  clear hr
  refine goes_oper_k rfl rfl (by k_ne) (fun K' hK => ?_)
  go_simp
  refine hK _ _ ⟨_, guar_alloc (fun e he => by have hm := mem_listed he; simp [go_sem, *] at hm), ?_⟩
  clear hK K'
  replace hS := hS.alloc (.cells #[.int .i64 cycle] 3 (0, 0))
  generalize W1.heap.size = b2 at *
  generalize W1.alloc (.cells #[.int .i64 cycle] 3 (0, 0)) = W2 at *
  clear W1
  refine walks_goes rfl (fun W1 hr => ?_)
  replace hS := hS.rely hr
  clear hr
  refine goes_oper_k rfl rfl (by k_ne) (fun K' hK => ?_)
  go_simp
  refine hK _ _ ⟨_, guar_alloc (fun e he => by have hm := mem_listed he; simp [go_sem, *] at hm), ?_⟩
  clear hK K'
  replace hS := hS.alloc (.cells #[.slice lp ll lc] 22 (0, 0))
  generalize W1.heap.size = b3 at *
  generalize W1.alloc (.cells #[.slice lp ll lc] 22 (0, 0)) = W2 at *
  clear W1
  refine walks_goes rfl (fun W1 hr => ?_)
  replace hS := hS.rely hr
  clear hr
  refine goes_oper_k rfl rfl (by k_ne) (fun K' hK => ?_)
  go_simp
  refine hK _ _ ⟨_, guar_none (fun e he => by have hm := mem_listed he; simp [go_sem, *] at hm), ?_⟩
  clear hK K'
  refine walks_goes rfl (fun W1 hr => ?_)
  replace hS := hS.rely hr
  clear hr
  refine goes_oper_k rfl rfl (by k_ne) (fun K' hK => ?_)
  go_simp
  refine hK _ _ ⟨_, guar_none (fun e he => by have hm := mem_listed he; simp [go_sem, *] at hm), ?_⟩
  clear hK K'
  refine Walks.idle rfl (fun _ => stepG_region_end) ?_
  refine Walks.idle rfl (fun _ => stepG_seq) ?_
  refine Walks.idle rfl (fun _ => stepG_seq) ?_
  refine Walks.idle rfl (fun _ => stepG_region) ?_
  simp only [List.size_toArray, List.length_cons, List.length_nil, Nat.reduceAdd, Nat.zero_add, List.range, List.range.loop]
  refine walks_goes rfl (fun W1 hr => ?_)
  replace hS := hS.rely hr
  clear hr
  obtain ⟨k0, g0⟩ := hS.cell (.head _)
  refine goes_oper_k rfl rfl (by k_ne) (fun K' hK => ?_)
  go_simp
  refine hK _ _ ⟨_, guar_reads (fun e he => ?_), ?_⟩
  · have hm := mem_listed he
    simp [go_sem, *] at hm
    subst hm
    exact ⟨_, rfl, .inl ((hS.own _).2 (.inr ⟨_, (.head _)⟩))⟩
  clear hK K' k0 g0
  refine walks_goes rfl (fun W1 hr => ?_)
  replace hS := hS.rely hr
  clear hr
  refine goes_oper_k rfl rfl (by k_ne) (fun K' hK => ?_)
  go_simp
  refine hK _ _ ⟨_, guar_none (fun e he => by have hm := mem_listed he; simp [go_sem, *] at hm), ?_⟩
  clear hK K'
  refine walks_goes rfl (fun W1 hr => ?_)
  replace hS := hS.rely hr
  clear hr
  refine goes_oper_k rfl rfl (by k_ne) (fun K' hK => ?_)
  go_simp
  refine hK _ _ ⟨_, guar_none (fun e he => by have hm := mem_listed he; simp [go_sem, *] at hm), ?_⟩
  clear hK K'
  refine walks_goes rfl (fun W1 hr => ?_)
  replace hS := hS.rely hr
  clear hr
  refine goes_call rfl rfl (by k_ne) rfl Tryd.func11 (by kernel_rfl) rfl ⟨_, Guar.refl _ _ _, ?_⟩
  walk_nrmf Tryd.f11
  refine Walks.idle rfl (fun _ => stepG_seq) ?_
  refine Walks.idle rfl (fun _ => stepG_region) ?_
  simp only [List.size_toArray, List.length_cons, List.length_nil, Nat.zero_add, List.range, List.range.loop]
  refine walks_goes rfl (fun W1 hr => ?_)
  replace hS := hS.rely hr
  clear hr
  refine goes_oper_k rfl rfl (by k_ne) (fun K' hK => ?_)
  go_simp
  refine hK _ _ ⟨_, guar_none (fun e he => by have hm := mem_listed he; simp [go_sem, *] at hm), ?_⟩
  clear hK K'
  refine Walks.idle rfl (fun _ => stepG_region_end) ?_
  refine Walks.idle rfl (fun _ => stepG_seq) ?_
  refine Walks.idle rfl (fun _ => stepG_seq) ?_
  refine Walks.idle rfl (fun _ => stepG_region) ?_
  simp only [List.size_toArray, List.length_cons, List.length_nil, Nat.reduceAdd, Nat.zero_add, List.range, List.range.loop]
  refine walks_goes rfl (fun W1 hr => ?_)
  replace hS := hS.rely hr
  clear hr
  refine goes_oper_k rfl rfl (by k_ne) (fun K' hK => ?_)
  go_simp
  refine hK _ _ ⟨_, guar_none (fun e he => by have hm := mem_listed he; simp [go_sem, *] at hm), ?_⟩
  clear hK K'
  refine walks_goes rfl (fun W1 hr => ?_)
  replace hS := hS.rely hr
  clear hr
  refine goes_oper_k rfl rfl (by k_ne) (fun K' hK => ?_)
  go_simp
  refine hK _ _ ⟨_, guar_none (fun e he => by have hm := mem_listed he; simp [go_sem, *] at hm), ?_⟩
  clear hK K'
  refine walks_goes rfl (fun W1 hr => ?_)
  replace hS := hS.rely hr
  clear hr
  refine goes_oper_k rfl rfl (by k_ne) (fun K' hK => ?_)
  go_simp
  refine hK _ _ ⟨_, guar_none (fun e he => by have hm := mem_listed he; simp [go_sem, *] at hm), ?_⟩
  clear hK K'
  refine walks_goes rfl (fun W1 hr => ?_)
  replace hS := hS.rely hr
  clear hr
  refine goes_oper_k rfl rfl (by k_ne) (fun K' hK => ?_)
  go_simp
  refine hK _ _ ⟨_, guar_none (fun e he => by have hm := mem_listed he; simp [go_sem, *] at hm), ?_⟩
  clear hK K'
  refine walks_goes rfl (fun W1 hr => ?_)
  replace hS := hS.rely hr
  clear hr
  refine goes_oper_k rfl rfl (by k_ne) (fun K' hK => ?_)
  go_simp
  refine hK _ _ ⟨_, guar_none (fun e he => by have hm := mem_listed he; simp [go_sem, *] at hm), ?_⟩
  clear hK K'
  refine walks_goes rfl (fun W1 hr => ?_)
  replace hS := hS.rely hr
  clear hr
  refine goes_oper_k rfl rfl (by k_ne) (fun K' hK => ?_)
  go_simp
  refine hK _ _ ⟨_, guar_none (fun e he => by have hm := mem_listed he; simp [go_sem, *] at hm), ?_⟩
  clear hK K'
  refine Walks.idle rfl (fun _ => stepG_region_end) ?_
  refine Walks.idle rfl (fun _ => stepG_cond (t := false) rfl) ?_
  simp only [Bool.false_eq_true, ↓reduceIte]
  refine Walks.idle rfl (fun _ => stepG_skip) ?_
  refine Walks.idle rfl (fun _ => stepG_seq) ?_
  refine Walks.idle rfl (fun _ => stepG_seq) ?_
  refine Walks.idle rfl (fun _ => stepG_region) ?_
  simp only [List.size_toArray, List.length_cons, List.length_nil, Nat.reduceAdd, Nat.zero_add, List.range, List.range.loop]
  refine walks_goes rfl (fun W1 hr => ?_)
  replace hS := hS.rely hr
  clear hr
  refine goes_oper_k rfl rfl (by k_ne) (fun K' hK => ?_)
  go_simp
  refine hK _ _ ⟨_, guar_none (fun e he => by have hm := mem_listed he; simp [go_sem, *] at hm), ?_⟩
  clear hK K'
  refine walks_goes rfl (fun W1 hr => ?_)
  replace hS := hS.rely hr
  clear hr
  refine goes_oper_k rfl rfl (by k_ne) (fun K' hK => ?_)
  go_simp
  refine hK _ _ ⟨_, guar_none (fun e he => by have hm := mem_listed he; simp [go_sem, *] at hm), ?_⟩
  clear hK K'
  refine Walks.idle rfl (fun _ => stepG_region_end) ?_
  refine Walks.idle rfl (fun _ => stepG_cond (t := true) rfl) ?_
  simp only [if_true]
  refine Walks.idle rfl (fun _ => stepG_seq) ?_
  refine Walks.idle rfl (fun _ => stepG_region) ?_
  simp only [List.size_toArray, List.length_cons, List.length_nil, Nat.reduceAdd, Nat.zero_add, List.range, List.range.loop]
  refine walks_goes rfl (fun W1 hr => ?_)
  replace hS := hS.rely hr
  clear hr
  have kg : W1.cell? ⟨1, 0, none⟩ = some e := cell_rely (O := O) (Sh := Sh) hS.r (.inr he.sh) he.at_
  refine goes_oper_k rfl rfl (by k_ne) (fun K' hK => ?_)
  go_simp
  refine hK _ _ ⟨_, guar_reads (fun e he' => ?_), ?_⟩
  · have hm := mem_listed he'
    simp [go_sem, *] at hm
    subst hm
    exact ⟨_, rfl, .inr he.sh⟩
  clear hK K' kg
  refine walks_goes rfl (fun W1 hr => ?_)
  replace hS := hS.rely hr
  clear hr
  refine goes_oper_k rfl rfl (by k_ne) (fun K' hK => ?_)
  go_simp
  refine hK _ _ ⟨_, guar_none (fun e he => by have hm := mem_listed he; simp [go_sem, *] at hm), ?_⟩
  clear hK K'
  refine Walks.idle rfl (fun _ => stepG_region_end) ?_
  refine Walks.idle rfl (fun _ => stepG_ret') ?_
  refine walks_goes rfl (fun W1 hr => ?_)
  replace hS := hS.rely hr
  clear hr
  refine goes_leave1 rfl rfl Tryd.func11 rfl ⟨_, Guar.refl _ _ _, ?_⟩
  walk_nrm
  refine walks_goes rfl (fun W1 hr => ?_)
  replace hS := hS.rely hr
  clear hr
  refine goes_oper_k rfl rfl (by k_ne) (fun K' hK => ?_)
  go_simp
  refine hK _ _ ⟨_, guar_none (fun e he => by have hm := mem_listed he; simp [go_sem, *] at hm), ?_⟩
  clear hK K'
  refine Walks.idle rfl (fun _ => stepG_region_end) ?_
  refine Walks.idle rfl (fun _ => stepG_seq) ?_
  refine Walks.idle rfl (fun _ => stepG_region) ?_
  simp only [List.size_toArray, List.length_cons, List.length_nil, Nat.reduceAdd, Nat.zero_add, List.range, List.range.loop]
  refine walks_goes rfl (fun W1 hr => ?_)
  replace hS := hS.rely hr
  clear hr
  refine goes_oper_k rfl rfl (by k_ne) (fun K' hK => ?_)
  go_simp
  refine hK _ _ ⟨_, guar_none (fun e he => by have hm := mem_listed he; simp [go_sem, *] at hm), ?_⟩
  clear hK K'
  refine walks_goes rfl (fun W1 hr => ?_)
  replace hS := hS.rely hr
  clear hr
  refine goes_oper_k rfl rfl (by k_ne) (fun K' hK => ?_)
  go_simp
  refine hK _ _ ⟨_, guar_none (fun e he => by have hm := mem_listed he; simp [go_sem, *] at hm), ?_⟩
  clear hK K'
  refine Walks.idle rfl (fun _ => stepG_region_end) ?_
  refine Walks.idle rfl (fun _ => stepG_cond (t := true) rfl) ?_
  simp only [if_true]
  refine Walks.idle rfl (fun _ => stepG_seq) ?_
  refine Walks.idle rfl (fun _ => stepG_region) ?_
  simp only [List.size_toArray, List.length_cons, List.length_nil, Nat.reduceAdd, Nat.zero_add, List.range, List.range.loop]
  refine walks_goes rfl (fun W1 hr => ?_)
  replace hS := hS.rely hr
  clear hr
  refine goes_oper_k rfl rfl (by k_ne) (fun K' hK => ?_)
  go_simp
  refine hK _ _ ⟨_, guar_none (fun e he => by have hm := mem_listed he; simp [go_sem, *] at hm), ?_⟩
  clear hK K'
  refine walks_goes rfl (fun W1 hr => ?_)
  replace hS := hS.rely hr
  clear hr
  refine goes_oper_k rfl rfl (by k_ne) (fun K' hK => ?_)
  go_simp
  refine hK _ _ ⟨_, guar_none (fun e he => by have hm := mem_listed he; simp [go_sem, *] at hm), ?_⟩
  clear hK K'
  refine walks_goes rfl (fun W1 hr => ?_)
  replace hS := hS.rely hr
  clear hr
  refine goes_oper_k rfl rfl (by k_ne) (fun K' hK => ?_)
  go_simp
  refine hK _ _ ⟨_, guar_none (fun e he => by have hm := mem_listed he; simp [go_sem, *] at hm), ?_⟩
  clear hK K'
  refine Walks.idle rfl (fun _ => stepG_region_end) ?_
  refine Walks.idle rfl (fun _ => stepG_ret') ?_
  refine walks_goes rfl (fun W1 hr => ?_)
  replace hS := hS.rely hr
  clear hr
  refine goes_leave2 rfl rfl Tryd.func5 rfl ⟨_, Guar.refl _ _ _, ?_⟩
  exact (h _ _ W1 hS).to (by simp)
end of
end Go.Proofs.YtmbfdhekplnoaaaDoor

namespace Go.Proofs.YtmbfdhekplnoaaaDoor
open Go Go.Conc Go.RowKit Go.Conc.Lib Go.ConcR.Gen
open Go.ConcR (KK WgAt stA smA)

noncomputable def lwC2 : Code := match Tryd.f3.body with
  | some (.seq _ (.seq _ c)) => c
  | _ => .skip
noncomputable def lwOps4 : Array Oper := match Tryd.f3.body with
  | some (.seq _ (.seq _ (.seq _ (.seq (.region _ ops _) _)))) => ops
  | _ => #[]
theorem tailC_ok : okCodeB Tryd.prog (kA ++ kX) kGl (iaFunc Tryd.f3) tailC = true := by kernel_rfl
theorem tailC_res : resB (iaFunc Tryd.f3) Tryd.f3 = true := by kernel_rfl
theorem lw_res (t : Array Value) (W : World) : (Go.results Tryd.f3 t).runT Tryd.prog W #[] = (.ok (t.getD 10 undef) W, #[]) := by kernel_rfl
theorem lw_init : Tryd.prog.inits.idxOf? 3 = none := by kernel_rfl
theorem step_last {P : Program} {f : Nat} {g : Func} {t : Array Value} {k : List Item} {W : World} {v : Value} (hg : P.funcs[f]? = some g) (hin : P.inits.idxOf? f = none) (hres : (Go.results g t).runT P W #[] = (.ok v W, #[])) :
    stepG P true (G (Fr f t k .returning) []) W = .ended (.done v) W #[] := by
  have : stepG P true (G (Fr f t k .returning) []) W = unwind P true (Fr f t k .returning) [] none W := rfl
  rw [this]
  unfold unwind
  simp only [Fr]
  rw [hg]
  simp only
  rw [hres]
  simp [hin, doReturn, seen, GStep.after]
theorem sent_ne (a : Addr) (w : World) : (binOp .neq 27 (sent a) .nilIface).run Tryd.prog w = .ok (.bool true) w := by kernel_rfl
theorem sent_ev (a : Addr) (w : World) (es : Array Event) : (binOp .neq 27 (sent a) .nilIface).events Tryd.prog w es = es := by kernel_rfl
theorem sent_gr (a : Addr) (x y : Operand) (w : World) : (eqGuard .neq 27 x y (sent a) .nilIface).run Tryd.prog w = .ok () w := by kernel_rfl
theorem sent_ge (a : Addr) (x y : Operand) (w : World) (es : Array Event) : (eqGuard .neq 27 x y (sent a) .nilIface).events Tryd.prog w es = es := by kernel_rfl
theorem junk_of (Fn : FnR) (ρ : Brel) (y : Value) : ∃ x, VR Fn ρ x y ∧ VR Fn ρ x x := exists_junk Fn ρ _ y (Nat.lt_succ_self _)
def LwPost (W0 : World) (v : Value) (W : World) : Prop := v = .bool true ∧ Below W0.heap.size W0 W
theorem LwPost.of {W0 W : World} (r : Rely (fun _ => False) (fun b => b < W0.heap.size) W0 W) : LwPost W0 (.bool true) W := ⟨rfl, r.os, r.tape, r.output, r.size, fun k hk => r.keep k hk (.inr hk)⟩
def Mid (W0 : World) (O : Nat → Prop) (W : World) : Prop := Rely (fun _ => False) (fun b => b < W0.heap.size) W0 W ∧ ∀ b, O b ∨ b < W0.heap.size → b < W.heap.size
theorem Mid.rely {W0 W W1 : World} {O : Nat → Prop} (h : Mid W0 O W) (r : Rely O (fun b => b < W0.heap.size) W W1) : Mid W0 O W1 := ⟨h.1.trans r.less, fun b q => Nat.lt_of_lt_of_le (h.2 b q) r.size⟩
section law
variable {S R : List Nat} {A : Nat → Addr} {O : Nat → Prop} {a la a1 a2 : Option Addr} {n cap ll lc seed c1 c2 : Nat} {c wk : Int} {Wt Lv : Nat → Int} {W0 W : World}
abbrev LwEnds (W0 : World) : Stp := Ends Tryd.prog (fun b => b < W0.heap.size) (LwPost W0)
set_option maxRecDepth 100000 in
set_option maxHeartbeats 4000000 in
theorem law_a (H : House W0 S R A) (hS : ∀ b, S.elem b = true → b < W0.heap.size) (h : ∀ O W, Mid W0 O W → Walks Tryd.prog true (fun b => b < W0.heap.size) (LwEnds W0) O (G ((base 3).at ⟨#[.slice a n cap, .int .u64 seed, .int .i64 c, .slice la ll lc, .int .i64 wk, undef, undef, undef, undef, undef, .bool false, .bool true, undef, undef, undef, undef, undef, undef, undef, undef, undef, undef, .bool true, undef, undef, undef, undef, undef, undef, undef, undef, undef, undef, undef, undef, undef, undef, undef, undef, undef, undef, undef, undef, undef, undef, undef, undef, undef, undef, undef, undef, undef, undef, undef, undef, undef, undef, undef, undef, undef, undef, undef, undef, undef, undef, undef, undef, undef, undef, undef, undef, undef, undef, undef, undef, undef, undef, undef, undef, undef, undef, undef, undef, undef, undef, undef, undef, undef, undef, undef, undef, undef, undef, undef, undef, undef, undef, undef, undef, undef, undef, undef, undef, undef, undef, undef, undef, undef, undef, undef, undef, undef, undef, undef, undef, undef, undef, undef, undef, undef, undef, undef, undef, undef, undef, undef, undef, undef, undef, undef, undef, undef, undef, undef, undef, undef, undef], []⟩ [.code lwC2]) []) W) :
    Walks Tryd.prog true (fun b => b < W0.heap.size) (LwEnds W0) (fun _ => False) (G ((base 3).at ⟨#[.slice a n cap, .int .u64 seed, .int .i64 c, .slice la ll lc, .int .i64 wk] ++ Array.replicate (Tryd.f3.ntmps - 5) undef, []⟩ [.code (Tryd.f3.body.getD .skip)]) []) W0 := by
  have hF : Mid W0 (fun _ => False) W0 := ⟨Rely.refl _ _ _, fun b q => q.elim (fun z => z.elim) id⟩
  have step : ∀ {O W1 W2}, Mid W0 O W1 → Rely O (fun b => b < W0.heap.size) W1 W2 → Mid W0 O W2 := fun h r => h.rely r
  walk_nrmf Tryd.f3
  refine Walks.idle rfl (fun _ => stepG_seq) ?_
  refine Walks.idle rfl (fun _ => stepG_region) ?_
  simp only [List.size_toArray, List.length_cons, List.length_nil, Nat.zero_add, List.range, List.range.loop]
  refine walks_goes rfl (fun W1 hr => ?_)
  replace hF := step hF hr
  clear hr
  refine goes_oper_k rfl rfl (by k_ne) (fun K' hK => ?_)
  go_simp
  refine hK _ _ ⟨_, guar_none (fun e he => by have hm := mem_listed he; simp [go_sem, *] at hm), ?_⟩
  clear hK K'
  refine Walks.idle rfl (fun _ => stepG_region_end) ?_
  refine Walks.idle rfl (fun _ => stepG_seq) ?_
  refine Walks.idle rfl (fun _ => stepG_region) ?_
  simp only [List.size_toArray, List.length_cons, List.length_nil, Nat.reduceAdd, Nat.zero_add, List.range, List.range.loop]
  refine walks_goes rfl (fun W1 hr => ?_)
  replace hF := step hF hr
  clear hr
  refine goes_call rfl rfl (by k_ne) rfl Tryd.func4 (by kernel_rfl) rfl ⟨_, Guar.refl _ _ _, ?_⟩
  have HW := H.keep fun b hb => hF.1.keep b (hS b hb) (.inr (hS b hb))
  refine (abreast_call HW hS hF.2 fun O' W2 hr lt => ?_).to (by simp [Tryd.f4]; rfl)
  have hF : Mid W0 O' W2 := ⟨hF.1.trans hr, lt⟩
  clear lt hr HW
  rw [Frame.finish_at]
  walk_nrm
  refine walks_goes rfl (fun W1 hr => ?_)
  replace hF := step hF hr
  clear hr
  refine goes_oper_k rfl rfl (by k_ne) (fun K' hK => ?_)
  go_simp
  refine hK _ _ ⟨_, guar_none (fun e he => by have hm := mem_listed he; simp [go_sem, *] at hm), ?_⟩
  clear hK K'
  refine Walks.idle rfl (fun _ => stepG_region_end) ?_
  exact (h _ _ hF).to (by simp [lwC2, Tryd.f3])

set_option maxRecDepth 100000 in
set_option maxHeartbeats 4000000 in
theorem law_b1 (h : 100 < n) (hm : n ≤ 9223372036854775807) (hF : Mid W0 O W) : Walks Tryd.prog true (fun b => b < W0.heap.size) (LwEnds W0) O (G ((base 3).at ⟨#[.slice a n cap, .int .u64 seed, .int .i64 c, .slice la ll lc, .int .i64 wk, undef, undef, undef, undef, undef, .bool false, .bool true, undef, undef, undef, undef, undef, undef, undef, undef, undef, undef, .bool true, undef, undef, undef, undef, undef, undef, undef, undef, undef, undef, undef, undef, undef, undef, undef, undef, undef, undef, undef, undef, undef, undef, undef, undef, undef, undef, undef, undef, undef, undef, undef, undef, undef, undef, undef, undef, undef, undef, undef, undef, undef, undef, undef, undef, undef, undef, undef, undef, undef, undef, undef, undef, undef, undef, undef, undef, undef, undef, undef, undef, undef, undef, undef, undef, undef, undef, undef, undef, undef, undef, undef, undef, undef, undef, undef, undef, undef, undef, undef, undef, undef, undef, undef, undef, undef, undef, undef, undef, undef, undef, undef, undef, undef, undef, undef, undef, undef, undef, undef, undef, undef, undef, undef, undef, undef, undef, undef, undef, undef, undef, undef, undef, undef, undef], []⟩ [.code lwC2]) []) W := by
  have step : ∀ {O W1 W2}, Mid W0 O W1 → Rely O (fun b => b < W0.heap.size) W1 W2 → Mid W0 O W2 := fun h r => h.rely r
  have t1 : decide ((100 : Int) < (n : Int)) = true := decide_eq_true (by omega)
  simp only [lwC2, Tryd.f3]
  refine Walks.idle rfl (fun _ => stepG_seq) ?_
  refine Walks.idle rfl (fun _ => stepG_seq) ?_
  refine Walks.idle rfl (fun _ => stepG_region) ?_
  simp only [List.size_toArray, List.length_cons, List.length_nil, Nat.reduceAdd, Nat.zero_add, List.range, List.range.loop]
  refine walks_goes rfl (fun W1 hr => ?_)
  replace hF := step hF hr
  clear hr
  refine goes_oper_k rfl rfl (by k_ne) (fun K' hK => ?_)
  go_simp
  refine hK _ _ ⟨_, guar_none (fun e he => by have hm := mem_listed he; simp [go_sem, *] at hm), ?_⟩
  clear hK K'
  refine walks_goes rfl (fun W1 hr => ?_)
  replace hF := step hF hr
  clear hr
  refine goes_oper_k rfl rfl (by k_ne) (fun K' hK => ?_)
  go_simp
  refine hK _ _ ⟨_, guar_none (fun e he => by have hm := mem_listed he; simp [go_sem, *] at hm), ?_⟩
  clear hK K'
  refine walks_goes rfl (fun W1 hr => ?_)
  replace hF := step hF hr
  clear hr
  refine goes_oper_k rfl rfl (by k_ne) (fun K' hK => ?_)
  go_simp
  refine hK _ _ ⟨_, guar_none (fun e he => by have hm := mem_listed he; simp [go_sem, *] at hm), ?_⟩
  clear hK K'
  refine walks_goes rfl (fun W1 hr => ?_)
  replace hF := step hF hr
  clear hr
  refine goes_oper_k rfl rfl (by k_ne) (fun K' hK => ?_)
  go_simp
  refine hK _ _ ⟨_, guar_none (fun e he => by have hm := mem_listed he; simp [go_sem, *] at hm), ?_⟩
  clear hK K'
  refine walks_goes rfl (fun W1 hr => ?_)
  replace hF := step hF hr
  clear hr
  refine goes_oper_k rfl rfl (by k_ne) (fun K' hK => ?_)
  go_simp
  refine hK _ _ ⟨_, guar_none (fun e he => by have hm := mem_listed he; simp [go_sem, *] at hm), ?_⟩
  clear hK K'
  refine walks_goes rfl (fun W1 hr => ?_)
  replace hF := step hF hr
  clear hr
  refine goes_oper_k rfl rfl (by k_ne) (fun K' hK => ?_)
  go_simp
  refine hK _ _ ⟨_, guar_none (fun e he => by have hm := mem_listed he; simp [go_sem, *] at hm), ?_⟩
  clear hK K'
  refine walks_goes rfl (fun W1 hr => ?_)
  replace hF := step hF hr
  clear hr
  refine goes_oper_k rfl rfl (by k_ne) (fun K' hK => ?_)
  go_simp
  refine hK _ _ ⟨_, guar_none (fun e he => by have hm := mem_listed he; simp [go_sem, *] at hm), ?_⟩
  clear hK K'
  refine walks_goes rfl (fun W1 hr => ?_)
  replace hF := step hF hr
  clear hr
  refine goes_oper_k rfl rfl (by k_ne) (fun K' hK => ?_)
  go_simp
  refine hK _ _ ⟨_, guar_none (fun e he => by have hm := mem_listed he; simp [go_sem, *] at hm), ?_⟩
  clear hK K'
  refine Walks.idle rfl (fun _ => stepG_unwanted rfl rfl) ?_
  walk_nrm
  refine Walks.idle rfl (fun _ => stepG_unwanted rfl rfl) ?_
  walk_nrm
  refine Walks.idle rfl (fun _ => stepG_unwanted rfl rfl) ?_
  walk_nrm
  refine walks_goes rfl (fun W1 hr => ?_)
  replace hF := step hF hr
  clear hr
  refine goes_oper_k rfl rfl (by k_ne) (fun K' hK => ?_)
  go_simp
  refine hK _ _ ⟨_, guar_none (fun e he => by have hm := mem_listed he; simp [go_sem, *] at hm), ?_⟩
  clear hK K'
  refine Walks.idle rfl (fun _ => stepG_region_end) ?_
  refine Walks.idle rfl (fun _ => stepG_cond (t := true) rfl) ?_
  simp only [if_true]
  refine Walks.idle rfl (fun _ => stepG_seq) ?_
  refine Walks.idle rfl (fun _ => stepG_region) ?_
  simp only [List.size_toArray, List.length_cons, List.length_nil, Nat.reduceAdd, Nat.zero_add, List.range, List.range.loop]
  refine walks_goes rfl (fun W1 hr => ?_)
  replace hF := step hF hr
  clear hr
  refine goes_oper_k rfl rfl (by k_ne) (fun K' hK => ?_)
  go_simp
  refine hK _ _ ⟨_, guar_none (fun e he => by have hm := mem_listed he; simp [go_sem, *] at hm), ?_⟩
  clear hK K'
  refine walks_goes rfl (fun W1 hr => ?_)
  replace hF := step hF hr
  clear hr
  refine goes_oper_k rfl rfl (by k_ne) (fun K' hK => ?_)
  go_simp
  refine hK _ _ ⟨_, guar_none (fun e he => by have hm := mem_listed he; simp [go_sem, *] at hm), ?_⟩
  clear hK K'
  refine Walks.idle rfl (fun _ => stepG_region_end) ?_
  refine Walks.idle rfl (fun _ => stepG_ret') ?_
  refine Walks.stop fun W1 hr => ends_return rfl fun d => ⟨.bool true, step_last Tryd.func3 lw_init (lw_res _ _), LwPost.of ((hF.rely hr).1.trans ⟨Nat.le_refl _, fun _ _ _ => rfl, rfl, rfl, rfl⟩)⟩

set_option maxRecDepth 100000 in
set_option maxHeartbeats 4000000 in
theorem law_b2 (h : n ≤ 100) (h2 : 110 < ll) (hl : ll ≤ 9223372036854775807) (hF : Mid W0 O W) : Walks Tryd.prog true (fun b => b < W0.heap.size) (LwEnds W0) O (G ((base 3).at ⟨#[.slice a n cap, .int .u64 seed, .int .i64 c, .slice la ll lc, .int .i64 wk, undef, undef, undef, undef, undef, .bool false, .bool true, undef, undef, undef, undef, undef, undef, undef, undef, undef, undef, .bool true, undef, undef, undef, undef, undef, undef, undef, undef, undef, undef, undef, undef, undef, undef, undef, undef, undef, undef, undef, undef, undef, undef, undef, undef, undef, undef, undef, undef, undef, undef, undef, undef, undef, undef, undef, undef, undef, undef, undef, undef, undef, undef, undef, undef, undef, undef, undef, undef, undef, undef, undef, undef, undef, undef, undef, undef, undef, undef, undef, undef, undef, undef, undef, undef, undef, undef, undef, undef, undef, undef, undef, undef, undef, undef, undef, undef, undef, undef, undef, undef, undef, undef, undef, undef, undef, undef, undef, undef, undef, undef, undef, undef, undef, undef, undef, undef, undef, undef, undef, undef, undef, undef, undef, undef, undef, undef, undef, undef, undef, undef, undef, undef, undef, undef], []⟩ [.code lwC2]) []) W := by
  have step : ∀ {O W1 W2}, Mid W0 O W1 → Rely O (fun b => b < W0.heap.size) W1 W2 → Mid W0 O W2 := fun h r => h.rely r
  have t1 : ¬ (100 : Int) < (n : Int) := by omega
  have t2 : decide ((110 : Int) < (ll : Int)) = true := decide_eq_true (by omega)
  simp only [lwC2, Tryd.f3]
  refine Walks.idle rfl (fun _ => stepG_seq) ?_
  refine Walks.idle rfl (fun _ => stepG_seq) ?_
  refine Walks.idle rfl (fun _ => stepG_region) ?_
  simp only [List.size_toArray, List.length_cons, List.length_nil, Nat.reduceAdd, Nat.zero_add, List.range, List.range.loop]
  refine walks_goes rfl (fun W1 hr => ?_)
  replace hF := step hF hr
  clear hr
  refine goes_oper_k rfl rfl (by k_ne) (fun K' hK => ?_)
  go_simp
  refine hK _ _ ⟨_, guar_none (fun e he => by have hm := mem_listed he; simp [go_sem, *] at hm), ?_⟩
  clear hK K'
  refine walks_goes rfl (fun W1 hr => ?_)
  replace hF := step hF hr
  clear hr
  refine goes_oper_k rfl rfl (by k_ne) (fun K' hK => ?_)
  go_simp
  refine hK _ _ ⟨_, guar_none (fun e he => by have hm := mem_listed he; simp [go_sem, *] at hm), ?_⟩
  clear hK K'
  refine walks_goes rfl (fun W1 hr => ?_)
  replace hF := step hF hr
  clear hr
  refine goes_oper_k rfl rfl (by k_ne) (fun K' hK => ?_)
  go_simp
  refine hK _ _ ⟨_, guar_none (fun e he => by have hm := mem_listed he; simp [go_sem, *] at hm), ?_⟩
  clear hK K'
  refine walks_goes rfl (fun W1 hr => ?_)
  replace hF := step hF hr
  clear hr
  refine goes_oper_k rfl rfl (by k_ne) (fun K' hK => ?_)
  go_simp
  refine hK _ _ ⟨_, guar_none (fun e he => by have hm := mem_listed he; simp [go_sem, *] at hm), ?_⟩
  clear hK K'
  refine walks_goes rfl (fun W1 hr => ?_)
  replace hF := step hF hr
  clear hr
  refine goes_oper_k rfl rfl (by k_ne) (fun K' hK => ?_)
  go_simp
  refine hK _ _ ⟨_, guar_none (fun e he => by have hm := mem_listed he; simp [go_sem, *] at hm), ?_⟩
  clear hK K'
  refine walks_goes rfl (fun W1 hr => ?_)
  replace hF := step hF hr
  clear hr
  refine goes_oper_k rfl rfl (by k_ne) (fun K' hK => ?_)
  go_simp
  refine hK _ _ ⟨_, guar_none (fun e he => by have hm := mem_listed he; simp [go_sem, *] at hm), ?_⟩
  clear hK K'
  refine walks_goes rfl (fun W1 hr => ?_)
  replace hF := step hF hr
  clear hr
  refine goes_oper_k rfl rfl (by k_ne) (fun K' hK => ?_)
  go_simp
  refine hK _ _ ⟨_, guar_none (fun e he => by have hm := mem_listed he; simp [go_sem, *] at hm), ?_⟩
  clear hK K'
  refine walks_goes rfl (fun W1 hr => ?_)
  replace hF := step hF hr
  clear hr
  refine goes_oper_k rfl rfl (by k_ne) (fun K' hK => ?_)
  go_simp
  refine hK _ _ ⟨_, guar_none (fun e he => by have hm := mem_listed he; simp [go_sem, *] at hm), ?_⟩
  clear hK K'
  refine walks_goes rfl (fun W1 hr => ?_)
  replace hF := step hF hr
  clear hr
  refine goes_oper_k rfl rfl (by k_ne) (fun K' hK => ?_)
  go_simp
  refine hK _ _ ⟨_, guar_none (fun e he => by have hm := mem_listed he; simp [go_sem, *] at hm), ?_⟩
  clear hK K'
  refine walks_goes rfl (fun W1 hr => ?_)
  replace hF := step hF hr
  clear hr
  refine goes_oper_k rfl rfl (by k_ne) (fun K' hK => ?_)
  go_simp
  refine hK _ _ ⟨_, guar_none (fun e he => by have hm := mem_listed he; simp [go_sem, *] at hm), ?_⟩
  clear hK K'
  refine walks_goes rfl (fun W1 hr => ?_)
  replace hF := step hF hr
  clear hr
  refine goes_oper_k rfl rfl (by k_ne) (fun K' hK => ?_)
  go_simp
  refine hK _ _ ⟨_, guar_none (fun e he => by have hm := mem_listed he; simp [go_sem, *] at hm), ?_⟩
  clear hK K'
  refine walks_goes rfl (fun W1 hr => ?_)
  replace hF := step hF hr
  clear hr
  refine goes_oper_k rfl rfl (by k_ne) (fun K' hK => ?_)
  go_simp
  refine hK _ _ ⟨_, guar_none (fun e he => by have hm := mem_listed he; simp [go_sem, *] at hm), ?_⟩
  clear hK K'
  refine Walks.idle rfl (fun _ => stepG_region_end) ?_
  refine Walks.idle rfl (fun _ => stepG_cond (t := true) rfl) ?_
  simp only [if_true]
  refine Walks.idle rfl (fun _ => stepG_seq) ?_
  refine Walks.idle rfl (fun _ => stepG_region) ?_
  simp only [List.size_toArray, List.length_cons, List.length_nil, Nat.reduceAdd, Nat.zero_add, List.range, List.range.loop]
  refine walks_goes rfl (fun W1 hr => ?_)
  replace hF := step hF hr
  clear hr
  refine goes_oper_k rfl rfl (by k_ne) (fun K' hK => ?_)
  go_simp
  refine hK _ _ ⟨_, guar_none (fun e he => by have hm := mem_listed he; simp [go_sem, *] at hm), ?_⟩
  clear hK K'
  refine walks_goes rfl (fun W1 hr => ?_)
  replace hF := step hF hr
  clear hr
  refine goes_oper_k rfl rfl (by k_ne) (fun K' hK => ?_)
  go_simp
  refine hK _ _ ⟨_, guar_none (fun e he => by have hm := mem_listed he; simp [go_sem, *] at hm), ?_⟩
  clear hK K'
  refine Walks.idle rfl (fun _ => stepG_region_end) ?_
  refine Walks.idle rfl (fun _ => stepG_ret') ?_
  refine Walks.stop fun W1 hr => ends_return rfl fun d => ⟨.bool true, step_last Tryd.func3 lw_init (lw_res _ _), LwPost.of ((hF.rely hr).1.trans ⟨Nat.le_refl _, fun _ _ _ => rfl, rfl, rfl, rfl⟩)⟩

set_option maxRecDepth 100000 in
set_option maxHeartbeats 4000000 in
theorem law_b3 (h1 : n ≤ 100) (h2 : ll ≤ 110) (hF : Mid W0 O W) (h : ∀ W, Mid W0 O W → Walks Tryd.prog true (fun b => b < W0.heap.size) (LwEnds W0) O (G ((base 3).at ⟨#[.slice a n cap, .int .u64 seed, .int .i64 c, .slice la ll lc, .int .i64 wk, undef, undef, undef, undef, undef, .bool false, .bool true, undef, undef, undef, undef, undef, undef, undef, undef, undef, undef, .bool true, .bool true, .bool false, .bool false, .slice a n cap, .int .i64 n, .bool false, .bool false, .bool false, .slice la ll lc, .int .i64 ll, .bool false, .bool false, undef, undef, undef, undef, undef, undef, undef, undef, undef, undef, undef, undef, undef, undef, undef, undef, undef, undef, undef, undef, undef, undef, undef, undef, undef, undef, undef, undef, undef, undef, undef, undef, undef, undef, undef, undef, undef, undef, undef, undef, undef, undef, undef, undef, undef, undef, undef, undef, undef, undef, undef, undef, undef, undef, undef, undef, undef, undef, undef, undef, undef, undef, undef, undef, undef, undef, undef, undef, undef, undef, undef, undef, undef, undef, undef, undef, undef, undef, undef, undef, undef, undef, undef, undef, undef, undef, undef, undef, undef, undef, undef, undef, undef, undef, undef, undef, undef, undef, undef, undef, undef, undef], []⟩ [.inRegion lwOps4 [0, 1, 2, 3, 4, 5, 6, 7, 8, 9, 10, 11, 12], .code tailC]) []) W) : Walks Tryd.prog true (fun b => b < W0.heap.size) (LwEnds W0) O (G ((base 3).at ⟨#[.slice a n cap, .int .u64 seed, .int .i64 c, .slice la ll lc, .int .i64 wk, undef, undef, undef, undef, undef, .bool false, .bool true, undef, undef, undef, undef, undef, undef, undef, undef, undef, undef, .bool true, undef, undef, undef, undef, undef, undef, undef, undef, undef, undef, undef, undef, undef, undef, undef, undef, undef, undef, undef, undef, undef, undef, undef, undef, undef, undef, undef, undef, undef, undef, undef, undef, undef, undef, undef, undef, undef, undef, undef, undef, undef, undef, undef, undef, undef, undef, undef, undef, undef, undef, undef, undef, undef, undef, undef, undef, undef, undef, undef, undef, undef, undef, undef, undef, undef, undef, undef, undef, undef, undef, undef, undef, undef, undef, undef, undef, undef, undef, undef, undef, undef, undef, undef, undef, undef, undef, undef, undef, undef, undef, undef, undef, undef, undef, undef, undef, undef, undef, undef, undef, undef, undef, undef, undef, undef, undef, undef, undef, undef, undef, undef, undef, undef, undef], []⟩ [.code lwC2]) []) W := by
  have step : ∀ {O W1 W2}, Mid W0 O W1 → Rely O (fun b => b < W0.heap.size) W1 W2 → Mid W0 O W2 := fun h r => h.rely r
  have t1 : ¬ (100 : Int) < (n : Int) := by omega
  have t2 : ¬ (110 : Int) < (ll : Int) := by omega
  simp only [lwC2, Tryd.f3]
  refine Walks.idle rfl (fun _ => stepG_seq) ?_
  refine Walks.idle rfl (fun _ => stepG_seq) ?_
  refine Walks.idle rfl (fun _ => stepG_region) ?_
  simp only [List.size_toArray, List.length_cons, List.length_nil, Nat.reduceAdd, Nat.zero_add, List.range, List.range.loop]
  refine walks_goes rfl (fun W1 hr => ?_)
  replace hF := step hF hr
  clear hr
  refine goes_oper_k rfl rfl (by k_ne) (fun K' hK => ?_)
  go_simp
  refine hK _ _ ⟨_, guar_none (fun e he => by have hm := mem_listed he; simp [go_sem, *] at hm), ?_⟩
  clear hK K'
  refine walks_goes rfl (fun W1 hr => ?_)
  replace hF := step hF hr
  clear hr
  refine goes_oper_k rfl rfl (by k_ne) (fun K' hK => ?_)
  go_simp
  refine hK _ _ ⟨_, guar_none (fun e he => by have hm := mem_listed he; simp [go_sem, *] at hm), ?_⟩
  clear hK K'
  refine walks_goes rfl (fun W1 hr => ?_)
  replace hF := step hF hr
  clear hr
  refine goes_oper_k rfl rfl (by k_ne) (fun K' hK => ?_)
  go_simp
  refine hK _ _ ⟨_, guar_none (fun e he => by have hm := mem_listed he; simp [go_sem, *] at hm), ?_⟩
  clear hK K'
  refine walks_goes rfl (fun W1 hr => ?_)
  replace hF := step hF hr
  clear hr
  refine goes_oper_k rfl rfl (by k_ne) (fun K' hK => ?_)
  go_simp
  refine hK _ _ ⟨_, guar_none (fun e he => by have hm := mem_listed he; simp [go_sem, *] at hm), ?_⟩
  clear hK K'
  refine walks_goes rfl (fun W1 hr => ?_)
  replace hF := step hF hr
  clear hr
  refine goes_oper_k rfl rfl (by k_ne) (fun K' hK => ?_)
  go_simp
  refine hK _ _ ⟨_, guar_none (fun e he => by have hm := mem_listed he; simp [go_sem, *] at hm), ?_⟩
  clear hK K'
  refine walks_goes rfl (fun W1 hr => ?_)
  replace hF := step hF hr
  clear hr
  refine goes_oper_k rfl rfl (by k_ne) (fun K' hK => ?_)
  go_simp
  refine hK _ _ ⟨_, guar_none (fun e he => by have hm := mem_listed he; simp [go_sem, *] at hm), ?_⟩
  clear hK K'
  refine walks_goes rfl (fun W1 hr => ?_)
  replace hF := step hF hr
  clear hr
  refine goes_oper_k rfl rfl (by k_ne) (fun K' hK => ?_)
  go_simp
  refine hK _ _ ⟨_, guar_none (fun e he => by have hm := mem_listed he; simp [go_sem, *] at hm), ?_⟩
  clear hK K'
  refine walks_goes rfl (fun W1 hr => ?_)
  replace hF := step hF hr
  clear hr
  refine goes_oper_k rfl rfl (by k_ne) (fun K' hK => ?_)
  go_simp
  refine hK _ _ ⟨_, guar_none (fun e he => by have hm := mem_listed he; simp [go_sem, *] at hm), ?_⟩
  clear hK K'
  refine walks_goes rfl (fun W1 hr => ?_)
  replace hF := step hF hr
  clear hr
  refine goes_oper_k rfl rfl (by k_ne) (fun K' hK => ?_)
  go_simp
  refine hK _ _ ⟨_, guar_none (fun e he => by have hm := mem_listed he; simp [go_sem, *] at hm), ?_⟩
  clear hK K'
  refine walks_goes rfl (fun W1 hr => ?_)
  replace hF := step hF hr
  clear hr
  refine goes_oper_k rfl rfl (by k_ne) (fun K' hK => ?_)
  go_simp
  refine hK _ _ ⟨_, guar_none (fun e he => by have hm := mem_listed he; simp [go_sem, *] at hm), ?_⟩
  clear hK K'
  refine walks_goes rfl (fun W1 hr => ?_)
  replace hF := step hF hr
  clear hr
  refine goes_oper_k rfl rfl (by k_ne) (fun K' hK => ?_)
  go_simp
  refine hK _ _ ⟨_, guar_none (fun e he => by have hm := mem_listed he; simp [go_sem, *] at hm), ?_⟩
  clear hK K'
  refine walks_goes rfl (fun W1 hr => ?_)
  replace hF := step hF hr
  clear hr
  refine goes_oper_k rfl rfl (by k_ne) (fun K' hK => ?_)
  go_simp
  refine hK _ _ ⟨_, guar_none (fun e he => by have hm := mem_listed he; simp [go_sem, *] at hm), ?_⟩
  clear hK K'
  refine Walks.idle rfl (fun _ => stepG_region_end) ?_
  refine Walks.idle rfl (fun _ => stepG_cond (t := false) rfl) ?_
  simp only [Bool.false_eq_true, ↓reduceIte]
  refine Walks.idle rfl (fun _ => stepG_skip) ?_
  refine Walks.idle rfl (fun _ => stepG_seq) ?_
  refine Walks.idle rfl (fun _ => stepG_region) ?_
  simp only [List.size_toArray, List.length_cons, List.length_nil, Nat.reduceAdd, Nat.zero_add, List.range, List.range.loop]
  exact (h _ hF).to (by simp [lwOps4, tailC, Tryd.f3])

end law
end Go.Proofs.YtmbfdhekplnoaaaDoor
