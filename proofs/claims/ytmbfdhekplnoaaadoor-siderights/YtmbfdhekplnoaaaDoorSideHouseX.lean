/-
  ofAll, from its entry to where it begins to hire.
  THE CALL OF ofAll, WHOLE: beside who leaves; what is behind it beside who leaves.
  What of the world the parts of SideRights read; their lone world is laid as theirs is.
-/
import Derived.Test.YtmbfdhekplnoaaaDoorOfAll5X
import Derived.Test.YtmbfdhekplnoaaaDoorRightMathX
import Derived.Test.YtmbfdhekplnoaaaDoorHandOutX
namespace Go.Proofs.YtmbfdhekplnoaaaDoor
open Go Go.Conc Go.RowKit Go.Conc.Lib Go.ConcR.Gen
open Go.ConcR (KK WgAt stA smA)

structure OfMade (O Sh : Nat → Prop) (W0 : World) (k : OfSlots) (L : List (Nat × Obj)) (O' : Nat → Prop) (W : World) : Prop where
  s : Stock O Sh W0 L O' W
  m5 : (k.b5, .cells #[k.fv] 47 (0, 0)) ∈ L
  m7 : (k.b7, .cells #[.chan (some k.cn)] 67 (0, 0)) ∈ L
  m8 : (k.b8, .cells #[.chan (some k.cb)] 68 (0, 0)) ∈ L
  mn : (k.cn, .chan 0 #[] false 0 0 false) ∈ L
  mb : (k.cb, .chan 0 #[] false 0 0 false) ∈ L
  mw : (k.wg, .cells #[.int .u64 0, .int .u32 0] lk.tWg (0, 0)) ∈ L
  ne : [k.b5, k.cn, k.cb, k.b7, k.b8, k.wg].Pairwise (· ≠ ·)
theorem run_min2 (x y : Int) (w : World) : (Builtin.min_ #[3, 3] 3 #[.int .i64 x, .int .i64 y]).run Tryd.prog w = .ok (.int .i64 (if y < x then y else x)) w := by
  simp [Builtin.min_, Builtin.min2]
theorem ev_min2 (x y : Int) (w : World) (es : Array Event) : (Builtin.min_ #[3, 3] 3 #[.int .i64 x, .int .i64 y]).events Tryd.prog w es = es := by
  simp [Builtin.min_, Builtin.min2]
theorem Walks.to {P : Program} {main : Bool} {Sh : Nat → Prop} {Stop : Stp} {O : Nat → Prop} {g g' : Goroutine} {w : World} (h : Walks P main Sh Stop O g w) (e : g = g') : Walks P main Sh Stop O g' w := e ▸ h
section of
variable {Sh O : Nat → Prop} {Stop : Stp} {cs : List Frame} {M wk : Nat} {ff : Nat} {cap : Array Value} {W0 : World}
set_option maxRecDepth 100000 in
set_option maxHeartbeats 1000000 in
theorem of_start (_hM : M ≤ 1000) (_hwk : wk ≤ 1000) (lt : ∀ b, O b ∨ Sh b → b < W0.heap.size)
    (h : ∀ k L x O' W, k.M = M → k.wk = (wk : Int) → k.fv = .func (.func ff) #[] cap → k.c = min M wk → OfMade O Sh W0 k L O' W → Walks Tryd.prog true Sh Stop O' (ofHead k 0 x cs) W) :
    Walks Tryd.prog true Sh Stop O (G ((base 13).at ⟨#[.int .i64 M, .int .i64 wk, .func (.func ff) #[] cap] ++ Array.replicate (Tryd.f13.ntmps - 3) undef, []⟩ [.code (Tryd.f13.body.getD .skip)]) cs) W0 := by
  have hS := Stock.begin (O := O) (Sh := Sh) (W := W0) lt
  walk_nrmf Tryd.f13
  refine Walks.idle rfl (fun _ => stepG_seq) ?_
  refine Walks.idle rfl (fun _ => stepG_region) ?_
  simp only [List.size_toArray, List.length_cons, List.length_nil, Nat.reduceAdd, Nat.zero_add, List.range, List.range.loop]
  refine walks_goes rfl (fun W1 hr => ?_)
  replace hS := hS.rely hr
  clear hr
  refine goes_oper_k rfl rfl (by k_ne) (fun K' hK => ?_)
  go_simp
  refine hK _ _ ⟨_, guar_alloc (fun e he => by have hm := mem_listed he; simp [go_sem, *] at hm), ?_⟩
  clear hK K'
  replace hS := hS.alloc (.cells #[.func (.func ff) #[] cap] 47 (0, 0))
  generalize W1.heap.size = b5 at *
  generalize W1.alloc (.cells #[.func (.func ff) #[] cap] 47 (0, 0)) = W2 at *
  refine walks_goes rfl (fun W1 hr => ?_)
  replace hS := hS.rely hr
  clear hr
  refine goes_oper_k rfl rfl (by k_ne) (fun K' hK => ?_)
  go_simp
  refine hK _ _ ⟨_, guar_none (fun e he => by have hm := mem_listed he; simp [go_sem, *] at hm), ?_⟩
  clear hK K'
  refine Walks.idle rfl (fun _ => stepG_region_end) ?_
  refine Walks.idle rfl (fun _ => stepG_seq) ?_
  refine walks_draw mixed (fun l hl => ?_)
  refine of_d (h := fun cn cb b7 b8 L O' W hS m5 m0 m1 m2 m3 hne => ?_) hS (.head _) hl
  clear hl
  simp only [ofC2, Tryd.f13]
  refine Walks.idle rfl (fun _ => stepG_seq) ?_
  refine Walks.idle rfl (fun _ => stepG_region) ?_
  simp only [List.size_toArray, List.length_cons, List.length_nil, Nat.zero_add, List.range, List.range.loop]
  refine walks_goes rfl (fun W1 hr => ?_)
  replace hS := hS.rely hr
  clear hr
  refine goes_oper_k rfl rfl (by k_ne) (fun K' hK => ?_)
  go_simp
  refine hK _ _ ⟨_, guar_alloc (fun e he => by have hm := mem_listed he; simp [go_sem, *] at hm), ?_⟩
  clear hK K'
  have f5 := hS.fresh m5
  have f0 := hS.fresh m0
  have f1 := hS.fresh m1
  have f2 := hS.fresh m2
  have f3 := hS.fresh m3
  replace hS := hS.alloc (.cells #[.int .u64 0, .int .u32 0] 77 (0, 0))
  generalize W1.heap.size = wg at *
  generalize W1.alloc (.cells #[.int .u64 0, .int .u32 0] 77 (0, 0)) = W3 at *
  refine Walks.idle rfl (fun _ => stepG_region_end) ?_
  refine Walks.idle rfl (fun _ => stepG_seq) ?_
  refine Walks.idle rfl (fun _ => stepG_seq) ?_
  refine Walks.idle rfl (fun _ => stepG_region) ?_
  simp only [List.size_toArray, List.length_cons, List.length_nil, Nat.reduceAdd, Nat.zero_add, List.range, List.range.loop]
  refine walks_goes rfl (fun W1 hr => ?_)
  replace hS := hS.rely hr
  clear hr
  refine goes_oper_k rfl rfl (by k_ne) (fun K' hK => ?_)
  go_simp
  refine hK _ _ ⟨_, guar_none (fun e he => by have hm := mem_listed he; simp [go_sem, *] at hm), ?_⟩
  clear hK K'
  refine walks_goes rfl (fun W1 hr => ?_)
  replace hS := hS.rely hr
  clear hr
  refine goes_oper_k rfl rfl (by k_ne) (fun K' hK => ?_)
  go_simp
  refine hK _ _ ⟨_, guar_none (fun e he => by have hm := mem_listed he; simp [go_sem, *] at hm), ?_⟩
  clear hK K'
  have hmin : (if ((wk : Nat) : Int) < (M : Int) then ((wk : Nat) : Int) else (M : Int)) = ((min M wk : Nat) : Int) := by split <;> omega
  have r1 := run_min2 M wk
  have r2 := ev_min2 M wk
  rw [hmin] at r1
  clear hmin
  refine walks_goes rfl (fun W1 hr => ?_)
  replace hS := hS.rely hr
  clear hr
  refine goes_oper_k rfl rfl (by k_ne) (fun K' hK => ?_)
  go_simp
  refine hK _ _ ⟨_, guar_none (fun e he => by have hm := mem_listed he; simp [go_sem, *] at hm), ?_⟩
  clear hK K'
  clear r1 r2
  refine walks_goes rfl (fun W1 hr => ?_)
  replace hS := hS.rely hr
  clear hr
  refine goes_oper_k rfl rfl (by k_ne) (fun K' hK => ?_)
  go_simp
  refine hK _ _ ⟨_, guar_none (fun e he => by have hm := mem_listed he; simp [go_sem, *] at hm), ?_⟩
  clear hK K'
  refine Walks.idle rfl (fun _ => stepG_region_end) ?_
  refine Walks.idle rfl (fun _ => stepG_block) ?_
  refine Walks.idle rfl (fun _ => stepG_loop) ?_
  refine (h ⟨M, wk, .func (.func ff) #[] cap, b5, b7, b8, wg, cn, cb, min M wk⟩ _ #[undef, undef, undef, undef, undef, undef, undef, undef, undef, undef, undef, undef, undef, undef, undef, undef, undef, undef, undef, undef, undef, undef, undef, undef, undef, undef, undef, undef] _ _ rfl rfl rfl rfl ⟨hS, .tail _ m5, .tail _ m2, .tail _ m3, .tail _ m0, .tail _ m1, .head _, ?_⟩).to ?_
  · simp only [List.pairwise_cons, List.mem_cons, List.not_mem_nil, or_false, forall_eq_or_imp, forall_eq] at hne ⊢
    simp_all
  · simp [ofHead, ofT, ofC, ofR, Tryd.f13]
end of
end Go.Proofs.YtmbfdhekplnoaaaDoor

namespace Go.Proofs.YtmbfdhekplnoaaaDoor
open Go Go.Conc Go.RowKit Go.Conc.Lib Go.ConcR.Gen
open Go.ConcR (KK WgAt stA smA)

section of
variable {Sh X O : Nat → Prop} {Post : Value → World → Prop} {Env : World → Prop} {A : Made} {k : OfSlots} {cs : List Frame} {b₀ : Frame} {a₀ : Act} {ops₀ : Array Oper} {i₀ : Nat} {rest₀ : List Nat} {k₀ : List Item}
structure AllIn (M : Nat) (A : Made) (lb : Nat) (O : Nat → Prop) (W : World) : Prop where
  lt : ∀ b, O b → b < W.heap.size
  own : O lb
  bare : ∃ d t, W.heap[lb]? = some (.cells d t (0, 0))
  row : ∀ j, j < 2 * M → (∃ v, W.cell? ⟨lb, j, none⟩ = some v) ∧ W.frozen? ⟨lb, j, none⟩ = false
  got : ∀ i, i < M → ∃ s e Z, W.cell? ⟨lb, i * 2, none⟩ = some s ∧ W.cell? ⟨lb, i * 2 + 1, none⟩ = some e ∧ A i s e Z W ∧ ∀ b, Z b → O b ∧ b ≠ lb
def Steady (Sh : Nat → Prop) (A : Made) : Prop := ∀ i s e Z W W1, A i s e Z W → Rely Z Sh W W1 → A i s e Z W1
theorem all_of {n : Nat} {ds : List Nat} (h1 : ds.length = n) (h2 : ds.Nodup) (h3 : ∀ i ∈ ds, i < n) (i : Nat) (hi : i < n) : i ∈ ds := by
  rcases Classical.em (i ∈ ds) with h | h
  · exact h
  · have := nodup_le n (i :: ds) (List.nodup_cons.2 ⟨h, h2⟩) fun j hj => (List.mem_cons.1 hj).elim (fun e => e ▸ hi) (h3 j)
    simp only [List.length_cons] at this
    omega
theorem AllIn.rely (hA : Steady Sh A) {M lb : Nat} {W W1 : World} (h : AllIn M A lb O W) (r : Rely O Sh W W1) : AllIn M A lb O W1 := by
  have eb : W1.heap[lb]? = W.heap[lb]? := r.keep lb (h.lt lb h.own) (.inl h.own)
  have ec : ∀ j, W1.cell? ⟨lb, j, none⟩ = W.cell? ⟨lb, j, none⟩ := fun j => by unfold World.cell?; rw [show (⟨lb, j, none⟩ : Addr).block = lb from rfl, eb]
  have ef : ∀ j, W1.frozen? ⟨lb, j, none⟩ = W.frozen? ⟨lb, j, none⟩ := fun j => by unfold World.frozen?; rw [show (⟨lb, j, none⟩ : Addr).block = lb from rfl, eb]
  refine ⟨fun b q => Nat.lt_of_lt_of_le (h.lt b q) r.size, h.own, let ⟨d, t, z⟩ := h.bare; ⟨d, t, eb.trans z⟩, fun j hj => ?_, fun i hi => ?_⟩
  · rw [ec, ef]; exact h.row j hj
  · obtain ⟨s, e, Z, c1, c2, ha, hz⟩ := h.got i hi
    exact ⟨s, e, Z, (ec _).trans c1, (ec _).trans c2, hA i s e Z W W1 ha ⟨r.size, fun b hb q => r.keep b hb (q.imp (fun z => (hz b z).1) id), r.tape, r.os, r.output⟩, hz⟩
set_option maxRecDepth 100000 in
set_option maxHeartbeats 1000000 in
theorem of_tail {Stop : Stp} (K : Steady Sh A) {lb : Nat} {x : Array Value} {W : World} (hF : AllIn k.M A lb O W)
    (h : ∀ W1, AllIn k.M A lb O W1 → Rely O Sh W W1 → Walks Tryd.prog true Sh Stop O (G (b₀.at (a₀.put ((ops₀[i₀]?).bind (·.dst)) (.slice (some ⟨lb, 0, none⟩) k.M k.M)) (.inRegion ops₀ rest₀ :: k₀)) cs) W1) :
    Walks Tryd.prog true Sh Stop O (ofDone k lb x (b₀.at a₀ (.inRegion ops₀ (i₀ :: rest₀) :: k₀) :: cs)) W := by
  unfold ofDone ofT
  simp only [ofOps10, ofR11, ofR9, ofR, Tryd.f13]
  replace hF : AllIn k.M A lb O W ∧ Rely O Sh W W := ⟨hF, Rely.refl _ _ _⟩
  have step : ∀ {W1 W2}, AllIn k.M A lb O W1 ∧ Rely O Sh W W1 → Rely O Sh W1 W2 → AllIn k.M A lb O W2 ∧ Rely O Sh W W2 := fun h r => ⟨h.1.rely K r, h.2.trans r⟩
  refine Walks.idle rfl (fun _ => stepG_region_end) ?_
  refine Walks.idle rfl (fun _ => stepG_seq) ?_
  refine Walks.idle rfl (fun _ => stepG_region) ?_
  simp only [List.size_toArray, List.length_cons, List.length_nil, Nat.reduceAdd, Nat.zero_add, List.range, List.range.loop]
  refine walks_goes rfl (fun W1 hr => ?_)
  replace hF := step hF hr
  clear hr
  refine goes_oper_k rfl rfl (by k_ne) (fun K' hK => ?_)
  go_simp
  refine hK _ _ ⟨_, guar_none (fun e he => by have hm := mem_listed he; simp [go_sem, *] at hm), ?_⟩
  clear hK K'
  refine walks_goes rfl (fun W1 hr => ?_)
  replace hF := step hF hr
  clear hr
  refine goes_oper_k rfl rfl (by k_ne) (fun K' hK => ?_)
  go_simp
  refine hK _ _ ⟨_, guar_none (fun e he => by have hm := mem_listed he; simp [go_sem, *] at hm), ?_⟩
  clear hK K'
  refine Walks.idle rfl (fun _ => stepG_region_end) ?_
  refine Walks.idle rfl (fun _ => stepG_ret') ?_
  refine walks_goes rfl (fun W1 hr => ?_)
  replace hF := step hF hr
  clear hr
  refine goes_leave1 rfl rfl Tryd.func13 rfl ⟨_, Guar.refl _ _ _, ?_⟩
  exact (h W1 hF.1 hF.2).to (by simp)
def Stands (Sh X : Nat → Prop) (Wp : World) (W : World) : Prop := (∀ b, Sh b ∨ X b → W.heap[b]? = Wp.heap[b]?) ∧ W.tape = Wp.tape ∧ W.os = Wp.os ∧ W.output = Wp.output ∧ Wp.heap.size ≤ W.heap.size
def Answers (Sh O : Nat → Prop) (W0 : World) (M : Nat) (A : Made) (ff : Nat) (cap : Array Value) : Prop :=
  ∀ (X : Nat → Prop) (Wp : World), (∀ b, Sh b ∨ X b → b < Wp.heap.size) → (∀ b, O b → X b) → Rely O Sh W0 Wp → ∀ {Stop : Stp} (i : Nat), i < M → ∀ O1 W, Stands Sh X Wp W → (∀ b, O1 b ∨ (Sh b ∨ X b) → b < W.heap.size) →
    CallW Tryd.prog false (fun b => Sh b ∨ X b) Stop ff (#[.int .i64 i] ++ cap) O1 W fun O' v W' => ∃ Z s e, v = .agg #[s, e] ∧ (∀ b, O' b ↔ Z b ∨ O1 b) ∧ (∀ b, Z b → ¬ O1 b) ∧ A i s e Z W' ∧ (∀ b, Z b → Wp.heap.size ≤ b ∧ b < W'.heap.size) ∧ Stands Sh X Wp W' ∧ ∀ b, O' b ∨ (Sh b ∨ X b) → b < W'.heap.size
theorem stands_rely {Wp W W1 : World} {O1 : Nat → Prop} (lt : ∀ b, Sh b ∨ X b → b < Wp.heap.size) (h : Stands Sh X Wp W) (r : Rely O1 (fun b => Sh b ∨ X b) W W1) : Stands Sh X Wp W1 :=
  ⟨fun b hb => (r.keep b (Nat.lt_of_lt_of_le (lt b hb) h.2.2.2.2) (.inr hb)).trans (h.1 b hb), r.tape.trans h.2.1, r.os.trans h.2.2.1, r.output.trans h.2.2.2.1, Nat.le_trans h.2.2.2.2 r.size⟩
def Bodied (P : Program) (ff : Nat) : Prop := ∃ g, P.funcs[ff]? = some g ∧ (g.name == "runtime.NumGoroutine") = false ∧ g.body.isNone = false
set_option maxRecDepth 100000 in
set_option maxHeartbeats 4000000 in
theorem of_all {M wk ff : Nat} {cap : Array Value} {W0 : World} (hM : M ≤ 1000) (hwk : 1 ≤ wk ∧ wk ≤ 1000) (lt : ∀ b, O b ∨ Sh b → b < W0.heap.size) (hA : Steady Sh A) (one : ∀ i s e Z W, A i s e Z W → s.oneCell' = true ∧ e.oneCell' = true)
    (hf : Bodied Tryd.prog ff) (hcall : Answers Sh O W0 M A ff cap)
    (hend : ∀ O1 lb W, AllIn M A lb O1 W → (∀ b, Sh b → W.heap[b]? = W0.heap[b]?) → W.tape = W0.tape → W.os = W0.os → W.output = W0.output → W0.heap.size ≤ W.heap.size → Walks Tryd.prog true Sh (Ends Tryd.prog Sh Post) O1 (G (b₀.at (a₀.put ((ops₀[i₀]?).bind (·.dst)) (.slice (some ⟨lb, 0, none⟩) M M)) (.inRegion ops₀ rest₀ :: k₀)) cs) W) :
    Walks Tryd.prog true Sh (Ends Tryd.prog Sh Post) O (G ((base 13).at ⟨#[.int .i64 M, .int .i64 wk, .func (.func ff) #[] cap] ++ Array.replicate (Tryd.f13.ntmps - 3) undef, []⟩ [.code (Tryd.f13.body.getD .skip)]) (b₀.at a₀ (.inRegion ops₀ (i₀ :: rest₀) :: k₀) :: cs)) W0 := by
  refine of_start hM hwk.2 lt (fun k L x O' W kM kwk kfv kc hm => ?_)
  refine Walks.stop fun Wp hr => ?_
  have hs := hm.s.rely hr
  clear hr
  have O_of : ∀ {b o}, (b, o) ∈ L → O' b := fun h => (hs.own _).2 (.inr ⟨_, h⟩)
  have nw : ∀ {b o}, (b, o) ∈ L → W0.heap.size ≤ b := fun h => hs.new _ h
  have sz : ∀ {b o}, (b, o) ∈ L → b < Wp.heap.size := fun h => hs.size h
  have ne := hm.ne
  simp only [List.pairwise_cons, List.mem_cons, List.not_mem_nil, or_false, forall_eq_or_imp, forall_eq] at ne
  obtain ⟨⟨n1, n2, n3, n4, n5⟩, ⟨n6, n7, n8, n9⟩, ⟨n10, n11, n12⟩, ⟨n13, n14⟩, n15, _⟩ := ne
  let X : Nat → Prop := fun b => O' b ∧ b ≠ k.cn ∧ b ≠ k.cb ∧ b ≠ k.wg
  have ltp : ∀ b, Sh b ∨ X b → b < Wp.heap.size := fun b h => h.elim (fun z => Nat.lt_of_lt_of_le (lt b (.inr z)) hs.r.size) fun z => by
    rcases (hs.own b).1 z.1 with q | ⟨o, q⟩
    · exact Nat.lt_of_lt_of_le (lt b (.inl q)) hs.r.size
    · exact sz q
  have hOX : ∀ b, O b → X b := fun b q => ⟨(hs.own b).2 (.inl q), fun e => ?_, fun e => ?_, fun e => ?_⟩
  rotate_left
  · have := lt b (.inl q); have := nw hm.mn; omega
  · have := lt b (.inl q); have := nw hm.mb; omega
  · have := lt b (.inl q); have := nw hm.mw; omega
  have X5 : X k.b5 := ⟨O_of hm.m5, n1, n2, n5⟩
  have X7 : X k.b7 := ⟨O_of hm.m7, n7.symm, n10.symm, n14⟩
  have X8 : X k.b8 := ⟨O_of hm.m8, n8.symm, n11.symm, n15⟩
  let A' : Made := fun i s e Z W => A i s e Z W ∧ ∀ b, Z b → Wp.heap.size ≤ b ∧ b < W.heap.size
  have Q : PoolAsk Sh X (Stands Sh X Wp) A' k :=
    { K :=
        { rely := fun O1 W W1 r h => stands_rely ltp h r
          call := fun {Stop} i hi O1 W h => ⟨ff, cap, kfv, hf, by
            have hi : i < k.M := hi
            rw [kM] at hi
            have := hcall X Wp ltp hOX hs.r (Stop := Stop) i hi O1 W h.env h.lt
            refine this.mono fun O2 v W2 q => ?_
            obtain ⟨Z, s, e, h1, h2, h3, h4, h5, h6, h7⟩ := q
            exact ⟨Z, s, e, h1, h2, h3, ⟨h4, h5⟩, h6, h7⟩⟩
          arely := fun i s e Z W W1 h r => ⟨hA i s e Z W W1 h.1 ⟨r.size, fun b hb q => r.keep b hb (q.imp id .inl), r.tape, r.os, r.output⟩, fun b z => ⟨(h.2 b z).1, Nat.lt_of_lt_of_le (h.2 b z).2 r.size⟩⟩
          one := fun i s e Z W h => one i s e Z W h.1
          put := fun i s e Z W _ h => ⟨s, e, rfl, h⟩ }
      x := fun i s e Z W h b z => ⟨(h.2 b z).2, by have := (h.2 b z).1; have := sz hm.mn; omega, by have := (h.2 b z).1; have := sz hm.mw; omega⟩
      cnb := n6
      wn := n9.symm
      wb := n12.symm
      few := by rw [kM]; exact hM
      fewc := by rw [kc]; omega
      staff := fun h => by rw [kM] at h; rw [kc]; omega
      sh := ⟨fun z => z.elim (fun z => by have := lt _ (.inr z); have := nw hm.mn; omega) fun z => z.2.1 rfl, fun z => z.elim (fun z => by have := lt _ (.inr z); have := nw hm.mw; omega) fun z => z.2.2.2 rfl⟩
      s5 := X5
      s7 := X7
      s8 := X8
      cell := fun W h => by
        have e7 := (h.1 _ (.inr X7)).trans (hs.at_ _ hm.m7)
        have e8 := (h.1 _ (.inr X8)).trans (hs.at_ _ hm.m8)
        have e5 := (h.1 _ (.inr X5)).trans (hs.at_ _ hm.m5)
        simp only at e7 e8 e5
        simp [World.cell?, e7, e8, e5] }
  refine of_pool Q (fun O1 lb x W1 h => ?_) (fun b z => z.1) (O_of hm.mn) (O_of hm.mb) (O_of hm.mw) (fun z => z.2.2.1 rfl) ⟨_, _, hs.at_ _ hm.mn⟩ ⟨_, _, hs.at_ _ hm.mb⟩ (hs.at_ _ hm.mw) ⟨fun b _ => rfl, rfl, rfl, rfl, Nat.le_refl _⟩ (fun b z => ?_)
  · obtain ⟨ds, h1, h2, h3, h4⟩ := h
    have hin : AllIn k.M A lb O1 W1 := ⟨fun b z => h4.lt b (.inl z), h4.own, h4.bare, h4.row, fun i hi => by
      obtain ⟨s, e, Z, c1, c2, ha, hz⟩ := h4.got i (all_of h1 h2 h3 i hi)
      exact ⟨s, e, Z, c1, c2, ha.1, hz⟩⟩
    refine ends_of_walk (of_tail hA hin fun W2 hw hr => ?_)
    have st := h4.env
    rw [kM] at hw ⊢
    refine hend O1 lb W2 hw (fun b q => ?_) ?_ ?_ ?_ ?_
    · have q0 : b < W0.heap.size := lt b (.inr q)
      exact (hr.keep b (by have := st.2.2.2.2; have := hs.r.size; omega) (.inr q)).trans ((st.1 b (.inl q)).trans (hs.r.keep b q0 (.inr q)))
    · exact hr.tape.trans (st.2.1.trans hs.r.tape)
    · exact hr.os.trans (st.2.2.1.trans hs.r.os)
    · exact hr.output.trans (st.2.2.2.1.trans hs.r.output)
    · have := st.2.2.2.2; have := hs.r.size; have := hr.size; omega
  · rcases z with z | z
    · rcases (hs.own b).1 z with q | ⟨o, q⟩
      · exact Nat.lt_of_lt_of_le (lt b (.inl q)) hs.r.size
      · exact sz q
    · exact Nat.lt_of_lt_of_le (lt b (.inr z)) hs.r.size
end of
end Go.Proofs.YtmbfdhekplnoaaaDoor

namespace Go.Proofs.YtmbfdhekplnoaaaDoor
open Go Go.Conc

structure House (W : World) (S R : List Nat) (A : Nat → Addr) : Prop where
  shared : Shared kin.G W S R
  laid : Laid W A
  gl : ∀ g, kin.Gl g → S.elem g = true
  err : ∀ i, i < 10 → S.elem (A i).block = true ∧ R.elem (A i).block = false
theorem gl_lt {g : Nat} (h : kin.Gl g) : g < kin.G := by
  have : g ∈ kGl := by simpa using (show kGl.elem g = true from h)
  show g < 11 + 1
  simp only [kGl, List.mem_cons, List.not_mem_nil, or_false] at this
  omega
section house
variable {W W1 : World} {S R : List Nat} {A : Nat → Addr} {F : Nat → Bool}
theorem House.lt (h : House W S R A) {s : Nat} (hs : S.elem s = true) : s < W.heap.size := by
  obtain ⟨c, e, f, q, _⟩ := h.shared.1 s hs
  rcases Nat.lt_or_ge s W.heap.size with z | z
  · exact z
  · rw [Array.getElem?_eq_none z] at q; cases q
theorem House.gro (h : House W S R A) {g : Nat} (hg : g < kin.G) : R.elem g = false := by
  cases q : R.elem g with
  | false => rfl
  | true => have := (h.shared.2 g q).2; omega
theorem House.size (h : House W S R A) : kin.G ≤ W.heap.size := h.lt (h.gl 11 (show kGl.elem 11 = true from by decide))
theorem vr_ptr {a : Addr} (h1 : S.elem a.block = true) (h2 : R.elem a.block = false) : VR (kin.Fn R) (IdS fun i => S.elem i = true) (.pointer (some a)) (.pointer (some a)) :=
  .ptr ⟨⟨rfl, h1⟩, rfl, rfl⟩ fun q => by
    have q : R.elem a.block = true := q
    rw [h2] at q
    cases q
theorem vrs1 {Fn : FnR} {ρ : Brel} {x : Value} (h : VR Fn ρ x x) : VRs Fn ρ #[x] #[x] := ⟨rfl, fun i y z hy hz => by
  rw [hy] at hz
  cases hz
  cases i with
  | zero => simp at hy; subst hy; exact h
  | succ i => simp at hy⟩
theorem House.sent (h : House W S R A) {i : Nat} (hi : i < 10) : VR (kin.Fn R) (IdS fun i => S.elem i = true) (sent (A i)) (sent (A i)) := .iface _ (vr_ptr (h.err i hi).1 (h.err i hi).2)
theorem House.hErr (h : House W S R A) : VR (kin.Fn R) (IdS fun i => S.elem i = true) hErr hErr :=
  .iface _ (VR.ag (vrs1 (vr_ptr (a := ⟨11, 27, none⟩) (h.gl 11 (show kGl.elem 11 = true from by decide)) (h.gro (gl_lt (show kGl.elem 11 = true from by decide))))))
theorem House.lone (h : House W S R A) (hF : Mk S R F) (T : Nat → Question → Nat) : Laid (World.tp (loneW (kin.Fn R) W S F) T 0) A := by
  have cell : ∀ {g : Nat} {v : Value}, kGl.elem g = true → W.cell? ⟨g, 0, none⟩ = some v → VR (kin.Fn R) (IdS fun i => S.elem i = true) v v → (World.tp (loneW (kin.Fn R) W S F) T 0).cell? ⟨g, 0, none⟩ = some v := fun {g v} hg hc hv => lone_cell (a := ⟨g, 0, none⟩) (h.gl g hg) hc hv
  have at' : ∀ i, i < 10 → ∃ c t, (World.tp (loneW (kin.Fn R) W S F) T 0).heap[(A i).block]? = some (.cells c t (if F (A i).block then (0, c.size) else (0, 0))) := fun i hi => by
    have nr : ¬ (kin.Fn R).ro (A i).block := fun z => by
      have z : R.elem (A i).block = true := z
      rw [(h.err i hi).2] at z
      cases z
    obtain ⟨c, e, f, q, _⟩ := h.shared.1 _ (h.err i hi).1
    have := lone_at (Fn := kin.Fn R) (F := F) (h.err i hi).1 q
    rw [mk_plain nr] at this
    exact ⟨c.map (lv (kin.Fn R) S), e, by rw [Array.size_map]; exact this⟩
  refine ⟨cell (by decide) h.laid.v0 (h.sent (by omega)), cell (by decide) h.laid.v1 (h.sent (by omega)), cell (by decide) h.laid.v2 (h.sent (by omega)), cell (by decide) h.laid.v3 (h.sent (by omega)), cell (by decide) h.laid.v4 (h.sent (by omega)), cell (by decide) h.laid.v5 (h.sent (by omega)), cell (by decide) h.laid.v6 (h.sent (by omega)), cell (by decide) h.laid.v7 (h.sent (by omega)), cell (by decide) h.laid.v8 (h.sent (by omega)), cell (by decide) h.laid.v9 (h.sent (by omega)), cell (by decide) h.laid.h h.hErr, fun i hi => ?_, fun i j hi hj => ?_, h.laid.apart⟩
  · obtain ⟨c, t, q⟩ := at' i hi
    refine ⟨c, t, _, q, ?_⟩
    cases F (A i).block with
    | false => exact .inl rfl
    | true =>
      rcases Nat.eq_zero_or_pos c.size with z | z
      · left; rw [z]; rfl
      · exact .inr ⟨z, rfl⟩
  · obtain ⟨c, t, q⟩ := at' i hi
    obtain ⟨d, u, r⟩ := at' j hj
    cases f1 : F (A i).block with
    | false => rw [f1] at q; exact .inl ⟨c, t, q⟩
    | true => cases f2 : F (A j).block with
      | false => rw [f2] at r; exact .inr (.inl ⟨d, u, r⟩)
      | true =>
        rcases hF.2 _ _ f1 f2 with z | z | z
        · exact .inr (.inr z)
        · rw [(h.err i hi).2] at z; cases z
        · rw [(h.err j hj).2] at z; cases z
theorem cell_keep {a : Addr} {v : Value} (hk : W1.heap[a.block]? = W.heap[a.block]?) (h : W.cell? a = some v) : W1.cell? a = some v := by
  unfold World.cell? at h ⊢
  rw [hk]
  exact h
theorem House.keep (h : House W S R A) (hk : ∀ b, S.elem b = true → W1.heap[b]? = W.heap[b]?) : House W1 S R A := by
  have cell : ∀ {g : Nat} {v : Value}, kGl.elem g = true → W.cell? ⟨g, 0, none⟩ = some v → W1.cell? ⟨g, 0, none⟩ = some v := fun {g v} hg hc => cell_keep (a := ⟨g, 0, none⟩) (hk g (h.gl g hg)) hc
  refine ⟨⟨fun s hs => by rw [hk s hs]; exact h.shared.1 s hs, h.shared.2⟩, ⟨cell (by decide) h.laid.v0, cell (by decide) h.laid.v1, cell (by decide) h.laid.v2, cell (by decide) h.laid.v3, cell (by decide) h.laid.v4, cell (by decide) h.laid.v5, cell (by decide) h.laid.v6, cell (by decide) h.laid.v7, cell (by decide) h.laid.v8, cell (by decide) h.laid.v9, cell (by decide) h.laid.h, fun i hi => ?_, fun i j hi hj => ?_, h.laid.apart⟩, h.gl, h.err⟩
  · obtain ⟨c, t, f, q, r⟩ := h.laid.plain i hi
    exact ⟨c, t, f, by rw [hk _ (h.err i hi).1]; exact q, r⟩
  · rcases h.laid.mates i j hi hj with ⟨c, t, q⟩ | ⟨c, t, q⟩ | q
    · exact .inl ⟨c, t, by rw [hk _ (h.err i hi).1]; exact q⟩
    · exact .inr (.inl ⟨c, t, by rw [hk _ (h.err j hj).1]; exact q⟩)
    · exact .inr (.inr q)
def SliceIn (S : List Nat) (a : Option Addr) : Prop := ∀ x, a = some x → S.elem x.block = true
theorem vr_slice {a : Option Addr} (h : SliceIn S a) (n c : Nat) : VR (kin.Fn R) (IdS fun i => S.elem i = true) (.slice a n c) (.slice a n c) := by
  cases a with
  | none => exact .nilSlice n c
  | some x => exact .sl ⟨⟨rfl, h x rfl⟩, rfl, rfl⟩ n c
theorem ints_lone {Fn : FnR} {T : Nat → Question → Nat} {b off n : Nat} {Z : Nat → Int} (hb : S.elem b = true) (h : Ints W b off n Z) : Ints (World.tp (loneW Fn W S F) T 0) b off n Z := fun i hi => lone_cell (a := ⟨b, off + i, none⟩) hb (h i hi) (.int _ _)
theorem are_lone {Fn : FnR} {T : Nat → Question → Nat} {a : Option Addr} {n : Nat} {Z : Nat → Int} (hb : SliceIn S a) (h : IntsAre W a n Z) : IntsAre (World.tp (loneW Fn W S F) T 0) a n Z := by
  rcases h with h | ⟨b, off, rfl, hl, h⟩
  · exact .inl h
  · exact .inr ⟨b, off, rfl, by show b < (loneW Fn W S F).heap.size; rw [lone_size]; exact hl, ints_lone (hb _ rfl) h⟩
theorem are_keep {a : Option Addr} {n : Nat} {Z : Nat → Int} (hb : SliceIn S a) (hk : ∀ b, S.elem b = true → W1.heap[b]? = W.heap[b]?) (hz : W.heap.size ≤ W1.heap.size) (h : IntsAre W a n Z) : IntsAre W1 a n Z := by
  rcases h with h | ⟨b, off, rfl, hl, h⟩
  · exact .inl h
  · exact .inr ⟨b, off, rfl, Nat.lt_of_lt_of_le hl hz, fun i hi => cell_keep (a := ⟨b, off + i, none⟩) (hk b (hb _ rfl)) (h i hi)⟩
end house
end Go.Proofs.YtmbfdhekplnoaaaDoor
