/-
  THE STARTER COMES TO ITS LOOP: the list is made.
  sync.WaitGroup in company: quiet walks between its stops, for the pool's own stops. Add(1), of the starter that hires.
  sync.WaitGroup's functions and types in this program.
-/
import Derived.Test.YtmbfdhekplnoaaaDoorHandOut4X
import Derived.Conc.AppendWalk
import Derived.Test.YtmbfdhekplnoaaaDoorMidX
import Derived.Conc.WgGenN2
import Derived.Test.YtmbfdhekplnoaaaDoorProg
namespace Go.Proofs.YtmbfdhekplnoaaaDoor
open Go Go.Conc Go.RowKit Go.ConcR.Gen

theorem u_levels : Tryd.prog.underlying 41 = some (.slice 44) := by kernel_rfl
theorem info_level : ∃ i, Tryd.prog.info? 44 = some i ∧ i.zero = some (.agg #[.slice none 0 0, .nilIface]) ∧ i.size = 2 ∧ i.bytes = 40 := by
  have h1 : (Tryd.prog.info? 44).map (·.size) = some 2 := by kernel_rfl
  have h2 : (Tryd.prog.info? 44).map (·.bytes) = some 40 := by kernel_rfl
  have h3 : (Tryd.prog.info? 44).bind (·.zero) = some (.agg #[.slice none 0 0, .nilIface]) := by kernel_rfl
  cases h : Tryd.prog.info? 44 with
  | none => rw [h] at h1; cases h1
  | some i =>
    rw [h] at h1 h2 h3
    exact ⟨i, rfl, h3, Option.some.inj h1, Option.some.inj h2⟩
theorem make_list (M : Nat) (hM : M ≤ 1000) (w : World) : (Instr.makeSlice 41 (.int .i64 M) (.int .i64 M)).run Tryd.prog w = .ok (.slice (some ⟨w.heap.size, 0, none⟩) M M) (w.alloc (.cells (madeCells #[.slice none 0 0, .nilIface] (M * 2)) 44)) := by
  obtain ⟨i, hi, hz, h1, h2⟩ := info_level
  have := run_make (P := Tryd.prog) w 41 44 i (.agg #[.slice none 0 0, .nilIface]) u_levels hi hz .i64 .i64 M M (by omega) (Int.le_refl _) (by rw [h2]; omega) (by omega)
  rw [h1] at this
  simpa [Value.cells] using this
theorem make_list_ev (M : Nat) (hM : M ≤ 1000) (w : World) (es : Array Event) : (Instr.makeSlice 41 (.int .i64 M) (.int .i64 M)).events Tryd.prog w es = es := by
  obtain ⟨i, hi, hz, h1, h2⟩ := info_level
  exact events_make (P := Tryd.prog) w 41 44 i (.agg #[.slice none 0 0, .nilIface]) u_levels hi hz .i64 .i64 M M (by omega) (Int.le_refl _) (by rw [h2]; omega) (by omega) (by rw [h2]; omega) es
theorem blank_cells (w : World) (n : Nat) (ty : TypeId) (z0 z1 : Value) (j : Nat) (hj : j < n) : (∃ v, (w.alloc (.cells (madeCells #[z0, z1] n) ty)).cell? ⟨w.heap.size, j, none⟩ = some v) ∧ (w.alloc (.cells (madeCells #[z0, z1] n) ty)).frozen? ⟨w.heap.size, j, none⟩ = false := by
  have hb : (w.alloc (.cells (madeCells #[z0, z1] n) ty)).heap[w.heap.size]? = some (.cells (madeCells #[z0, z1] n) ty) := by
    show (w.heap.push _)[w.heap.size]? = _
    exact Array.getElem?_push_size
  have hs : j < (madeCells #[z0, z1] n).size := by rw [size_madeCells]; exact hj
  constructor
  · refine ⟨(madeCells #[z0, z1] n)[j], ?_⟩
    unfold World.cell?
    rw [show (⟨w.heap.size, j, none⟩ : Addr).block = w.heap.size from rfl, hb]
    simp [hs]
  · unfold World.frozen?
    rw [show (⟨w.heap.size, j, none⟩ : Addr).block = w.heap.size from rfl, hb]
    simp
structure OfFacts (F : Farm) (Env : World → Prop) (O : Nat → Prop) (W : World) : Prop where
  w : WkFacts Env F.Sh O W
  free : ∀ b, O b → b ≠ F.cn ∧ b ≠ F.ga.block
  old : F.cn < W.heap.size ∧ F.ga.block < W.heap.size
section ho
variable {F : Farm} {A : Nat → Value → Value → (Nat → Prop) → World → Prop} {Env : World → Prop} {fv : Value} {O : Nat → Prop}
theorem OfFacts.rely (K : WkAsk F Env fv A) {W W1 : World} (h : OfFacts F Env O W) (r : Rely O F.Sh W W1) : OfFacts F Env O W1 := ⟨h.w.rely K r, h.free, ⟨Nat.lt_of_lt_of_le h.old.1 r.size, Nat.lt_of_lt_of_le h.old.2 r.size⟩⟩
set_option maxRecDepth 100000 in
set_option maxHeartbeats 1000000 in
theorem ho_enter (K : WkAsk F Env fv A) (hP : F.P = Tryd.prog) (hM : F.M ≤ 1000) {cs : List Frame} {W : World} (hF : OfFacts F Env O W) {S : Stp}
    (h : ∀ lb x W, ¬ O lb → HoFacts F Env A lb [] (fun b => O b ∨ b = lb) W → GoesJ F.P true F.J F.Sh S (fun b => O b ∨ b = lb) (hoHead (hoT F.M (.chan (some F.cn)) F.cb lb 0 0 x) cs) W) :
    GoesJ F.P true F.J F.Sh S O (G ((base 29).at ⟨#[.int .i64 F.M, .chan (some F.cn), .chan (some F.cb)] ++ Array.replicate (Tryd.f29.ntmps - 3) undef, []⟩ [.code (Tryd.f29.body.getD .skip)]) cs) W := by
  refine GoesJ.bindJ (S1 := fun O' g W => ∃ lb x, ¬ O lb ∧ O' = (fun b => O b ∨ b = lb) ∧ HoFacts F Env A lb [] (fun b => O b ∨ b = lb) W ∧ g = hoHead (hoT F.M (.chan (some F.cn)) F.cb lb 0 0 x) cs) (fun O' g W _ q => by obtain ⟨lb, x, hn, rfl, hF, rfl⟩ := q; exact h lb x W hn hF) (GoesJ.of (J := F.J) ?_)
  rw [hP]
  walk_nrmf Tryd.f29
  refine Walks.idle rfl (fun _ => stepG_seq) ?_
  refine Walks.idle rfl (fun _ => stepG_region) ?_
  simp only [List.size_toArray, List.length_cons, List.length_nil, Nat.zero_add, List.range, List.range.loop]
  refine walks_goes rfl (fun W1 hr => ?_)
  replace hF := hF.rely K hr
  clear hr
  refine goes_oper_k rfl rfl (by k_ne) (fun K' hK => ?_)
  go_simp
  refine hK _ _ ⟨_, guar_none (fun e he => by have hm := mem_listed he; simp [go_sem, *] at hm), ?_⟩
  clear hK K'
  refine Walks.idle rfl (fun _ => stepG_region_end) ?_
  refine Walks.idle rfl (fun _ => stepG_seq) ?_
  refine Walks.idle rfl (fun _ => stepG_region) ?_
  simp only [List.size_toArray, List.length_cons, List.length_nil, Nat.reduceAdd, Nat.zero_add, List.range, List.range.loop]
  refine walks_goes rfl (fun W1 hr => ?_)
  replace hF := hF.rely K hr
  clear hr
  refine goes_oper_k rfl rfl (by k_ne) (fun K' hK => ?_)
  go_simp
  refine hK _ _ ⟨_, guar_none (fun e he => by have hm := mem_listed he; simp [go_sem, *] at hm), ?_⟩
  clear hK K'
  refine walks_goes rfl (fun W1 hr => ?_)
  replace hF := hF.rely K hr
  clear hr
  have m1 := make_list F.M hM W1
  have m2 := make_list_ev F.M hM W1
  refine goes_oper_k rfl rfl (by k_ne) (fun K' hK => ?_)
  go_simp
  refine hK _ _ ⟨_, guar_alloc (fun e he => by have hm := mem_listed he; simp [go_sem, *] at hm), ?_⟩
  clear hK K' m1 m2
  have hH : HoFacts F Env A W1.heap.size [] (fun b => O b ∨ b = W1.heap.size) (W1.alloc (.cells (madeCells #[.slice none 0 0, .nilIface] (F.M * 2)) 44)) := by
    refine ⟨K.rely (fun _ => False) W1 _ ⟨by simp, fun b hb _ => ?_, rfl, rfl, rfl⟩ hF.w.env, fun b q => ?_, fun b q => q.elim (hF.free b) (fun q => ?_), ?_, .inr rfl, fun q => Nat.lt_irrefl _ (hF.w.lt _ (.inr q)), ⟨_, _, Array.getElem?_push_size⟩, fun j hj => blank_cells W1 _ _ _ _ j (by omega), fun i hi => by cases hi⟩
    · show (W1.heap.push _)[b]? = _
      rw [Array.getElem?_push_lt hb, Array.getElem?_eq_getElem hb]
    · have : (W1.alloc (.cells (madeCells #[.slice none 0 0, .nilIface] (F.M * 2)) 44)).heap.size = W1.heap.size + 1 := by simp
      rw [this]
      rcases q with (q | q) | q
      · have := hF.w.lt b (.inl q); omega
      · omega
      · have := hF.w.lt b (.inr q); omega
    · have := hF.old; subst q; constructor <;> omega
    · have : (W1.alloc (.cells (madeCells #[.slice none 0 0, .nilIface] (F.M * 2)) 44)).heap.size = W1.heap.size + 1 := by simp
      rw [this]
      have := hF.old
      constructor <;> omega
  have hn : ¬ O W1.heap.size := fun q => Nat.lt_irrefl _ (hF.w.lt _ (.inl q))
  clear hF
  generalize W1.heap.size = lb at hH hn ⊢
  generalize W1.alloc (.cells (madeCells #[.slice none 0 0, .nilIface] (F.M * 2)) 44) = W2 at hH ⊢
  refine walks_goes rfl (fun W1 hr => ?_)
  replace hH := hH.rely K hr
  clear hr
  refine goes_oper_k rfl rfl (by k_ne) (fun K' hK => ?_)
  go_simp
  refine hK _ _ ⟨_, guar_none (fun e he => by have hm := mem_listed he; simp [go_sem, *] at hm), ?_⟩
  clear hK K'
  refine Walks.idle rfl (fun _ => stepG_region_end) ?_
  refine Walks.idle rfl (fun _ => stepG_seq) ?_
  refine Walks.idle rfl (fun _ => stepG_region) ?_
  simp only [List.size_toArray, List.length_cons, List.length_nil, Nat.zero_add, List.range, List.range.loop]
  refine walks_goes rfl (fun W1 hr => ?_)
  replace hH := hH.rely K hr
  clear hr
  refine goes_oper_k rfl rfl (by k_ne) (fun K' hK => ?_)
  go_simp
  refine hK _ _ ⟨_, guar_none (fun e he => by have hm := mem_listed he; simp [go_sem, *] at hm), ?_⟩
  clear hK K'
  refine Walks.idle rfl (fun _ => stepG_region_end) ?_
  refine Walks.idle rfl (fun _ => stepG_seq) ?_
  refine Walks.idle rfl (fun _ => stepG_seq) ?_
  refine Walks.idle rfl (fun _ => stepG_region) ?_
  simp only [List.size_toArray, List.length_cons, List.length_nil, Nat.zero_add, List.range, List.range.loop]
  refine walks_goes rfl (fun W1 hr => ?_)
  replace hH := hH.rely K hr
  clear hr
  refine goes_oper_k rfl rfl (by k_ne) (fun K' hK => ?_)
  go_simp
  refine hK _ _ ⟨_, guar_none (fun e he => by have hm := mem_listed he; simp [go_sem, *] at hm), ?_⟩
  clear hK K'
  refine Walks.idle rfl (fun _ => stepG_region_end) ?_
  refine Walks.idle rfl (fun _ => stepG_block) ?_
  refine Walks.idle rfl (fun _ => stepG_loop) ?_
  refine Walks.stop fun _ hr => ⟨lb, #[undef, undef, undef, undef, undef, undef, undef, undef, undef, undef, undef, .int .i64 F.M, .slice (some ⟨lb, 0, none⟩) F.M F.M, undef, undef, undef, undef, undef, undef, undef, undef, undef, undef, undef, undef, undef, undef, undef, undef, undef, undef, undef, undef, undef, undef, undef, undef, undef], hn, rfl, hH.rely K hr, ?_⟩
  simp [hoHead, hoC, hoR, hoT, Tryd.f29]
end ho
end Go.Proofs.YtmbfdhekplnoaaaDoor

namespace Go.Proofs.YtmbfdhekplnoaaaDoor
open Go Go.Conc Go.RowKit Go.Conc.Lib Go.ConcR.Gen Go.ConcN.Gen
open Go.ConcN (st_flag st_waiters)
open Go.ConcR (KK wgBlock WgAt stA smA rd wr mk Payload DC0)

section conv
variable {P : Program} {J : World → Prop} {Sh : Nat → Prop} {O : Nat → Prop} {R : World → World → Prop} {S : Goroutine → World → Prop} {S' : Stp}
theorem gj_of {main : Bool} (hR : ∀ W W1, RelyJ J O Sh W W1 → R W W1) (hS : ∀ g W, S g W → S' O g W) {n : Nat} {g : Goroutine} {W : World} (h : Goes P main R DC0 S n g W) : GoesJ P main J Sh S' O g W :=
  (GoesJ.of_goes hR h).mono fun _ g W q => q.1 ▸ hS g W q.2
theorem mn_of (hR : ∀ W W1, RelyJ J O Sh W W1 → R W W1) (hS : ∀ g W, S g W → S' O g W) {n : Nat} {g : Goroutine} {W : World} (h : Goes P true R DC0 S n g W) : GoesJ P true J Sh S' O g W :=
  (GoesJ.of_goes hR h).mono fun _ g W q => q.1 ▸ hS g W q.2
theorem mn_then {g0 : Goroutine} {Lv : World → Prop} (hR : ∀ W W1, RelyJ J O Sh W W1 → R W W1) (hk : ∀ W, Lv W → GoesJ P true J Sh S' O g0 W) {n : Nat} {g : Goroutine} {W : World} (h : Goes P true R DC0 (fun g W => g = g0 ∧ Lv W) n g W) : GoesJ P true J Sh S' O g W := by
  obtain ⟨T, hT⟩ := GoesJ.of_goes (O := O) hR h
  exact GoesJ.bind (fun O' g' W' q => by obtain ⟨rfl, rfl, q⟩ := q; exact hk W' q) hT
theorem wk_of (hR : ∀ W W1, RelyJ J O Sh W W1 → R W W1) (hS : ∀ g W, S g W → S' O g W) : ∀ {n : Nat} {g : Goroutine} {W : World}, Goes P false R DC0 S n g W → ∃ T, QWalk P J Sh S' T O g W
  | 0, _, _, h => ⟨.stop, fun W1 q => hS _ _ (h W1 (hR _ _ q))⟩
  | n + 1, g, W, h => by
    rcases h with h | ⟨hs, h⟩
    · exact ⟨.stop, fun W1 q => hS _ _ (h W1 (hR _ _ q))⟩
    · have key : ∀ W1, ∃ T : WT, RelyJ J O Sh W W1 → ∃ g', stepG P false g W1 = .go g' W1 #[] ∧ QWalk P J Sh S' T O g' W1 := fun W1 => by
        by_cases q : RelyJ J O Sh W W1
        · have h1 := h W1 (hR _ _ q)
          cases hst : stepG P false g W1 with
          | go g' W' es =>
            rw [hst, goes_go] at h1
            obtain ⟨⟨rfl, rfl⟩, h2⟩ := h1
            obtain ⟨T, hT⟩ := wk_of hR hS h2
            exact ⟨T, fun _ => ⟨g', rfl, hT⟩⟩
          | _ => rw [hst] at h1; exact h1.elim
        · exact ⟨.stop, fun z => absurd z q⟩
      exact ⟨.step fun W1 => Classical.choose (key W1), hs, fun W1 q => Classical.choose_spec (key W1) q⟩
end conv
theorem quits_mono {P : Program} : ∀ {m n d : Nat} {g : Goroutine}, QuitsD P m d g → m ≤ n → QuitsD P n d g
  | 0, 0, _, _, h, _ => h
  | 0, _ + 1, _, _, h, _ => .inl h
  | _ + 1, 0, _, _, _, hle => absurd hle (by omega)
  | m + 1, n + 1, d, g, h, hle => h.imp id fun ⟨h1, g', es, h2, h3, h4⟩ => ⟨h1, g', es, h2, h3, quits_mono h4 (by omega)⟩
def Live (ty : TypeId) (Wg : Nat) (W : World) : Prop := ∃ st sm, WgAt ty Wg W st sm
theorem live_rely {ty : TypeId} {Wg : Nat} {w w₁ : World} (h : Live ty Wg w) (r : Live ty Wg w → Live ty Wg w₁) : Live ty Wg w₁ := r h
theorem imp_rely {A B : Prop} (h : A) (r : A → B) : B := r h
theorem live_cell0 {ty : TypeId} {Wg : Nat} {w : World} (h : Live ty Wg w) : ∃ v, w.cell? ⟨Wg, 0, none⟩ = some v := let ⟨_, _, x⟩ := h; ⟨_, x.cellSt⟩
theorem live_cell1 {ty : TypeId} {Wg : Nat} {w : World} (h : Live ty Wg w) : ∃ v, w.cell? ⟨Wg, 1, none⟩ = some v := let ⟨_, _, x⟩ := h; ⟨_, x.cellSm⟩
structure Yard.Syncs (Y : Yard) (L : WgLink) : Prop where
  lib : WgLib Y.F.P L
  ty : Y.ty = L.tWg
  j : ∀ W, Y.F.J W ↔ Live L.tWg Y.Wg W
end Go.Proofs.YtmbfdhekplnoaaaDoor

namespace Go.Proofs.YtmbfdhekplnoaaaDoor
open Go Go.Conc Go.Conc.Lib

def lk : WgLink where
  add := 25
  done := 27
  wait := 30
  relMerge := 38
  disable := 39
  enable := 40
  inBubble := 41
  associate := 42
  fatal := 43
  uOr := 44
  uAdd := 45
  raceRead := 46
  uLoad := 47
  uStore := 48
  disassociate := 49
  semrelease := 50
  acquire := 51
  isAssociated := 52
  uCas := 53
  raceWrite := 54
  semacquire := 55
  orU64 := 71
  addU64 := 72
  loadU64 := 73
  storeU64 := 74
  casU64 := 75
  tWgP := 92
  tUP := 94
  tAssoc := 95
  tWg := 77
  tAU := 74
  tU64 := 23
  tUint := 99
  tU32 := 75
  tPU32 := 100
  tPAU := 138
  tPU64 := 140
  tNoCopy := 70
  tANoCopy := 71
  tAlign64 := 72
theorem lk_lib : WgLib Tryd.prog lk where
  f_add := Tryd.func25
  f_done := Tryd.func27
  f_wait := Tryd.func30
  f_relMerge := Tryd.func38
  f_disable := Tryd.func39
  f_enable := Tryd.func40
  f_inBubble := Tryd.func41
  f_associate := Tryd.func42
  f_fatal := Tryd.func43
  f_uOr := Tryd.func44
  f_uAdd := Tryd.func45
  f_raceRead := Tryd.func46
  f_uLoad := Tryd.func47
  f_uStore := Tryd.func48
  f_disassociate := Tryd.func49
  f_semrelease := Tryd.func50
  f_acquire := Tryd.func51
  f_isAssociated := Tryd.func52
  f_uCas := Tryd.func53
  f_raceWrite := Tryd.func54
  f_semacquire := Tryd.func55
  f_orU64 := Tryd.func71
  f_addU64 := Tryd.func72
  f_loadU64 := Tryd.func73
  f_storeU64 := Tryd.func74
  f_casU64 := Tryd.func75
  underlying_tWgP := Tryd.underlying92
  runUnderlying_tWgP := Tryd.runUnderlying92
  sizeOf_tWgP := Tryd.sizeOf92
  isAgg_tWgP := Tryd.isAgg92
  zeroValue_tWgP := Tryd.zeroValue92
  underlying_tUP := Tryd.underlying94
  runUnderlying_tUP := Tryd.runUnderlying94
  sizeOf_tUP := Tryd.sizeOf94
  isAgg_tUP := Tryd.isAgg94
  zeroValue_tUP := Tryd.zeroValue94
  underlying_tI32 := Tryd.underlying95
  runUnderlying_tI32 := Tryd.runUnderlying95
  sizeOf_tI32 := Tryd.sizeOf95
  isAgg_tI32 := Tryd.isAgg95
  zeroValue_tI32 := Tryd.zeroValue95
  underlying_tWg := Tryd.underlying77
  runUnderlying_tWg := Tryd.runUnderlying77
  sizeOf_tWg := Tryd.sizeOf77
  isAgg_tWg := Tryd.isAgg77
  zeroValue_tWg := Tryd.zeroValue77
  underlying_tAU := Tryd.underlying74
  runUnderlying_tAU := Tryd.runUnderlying74
  sizeOf_tAU := Tryd.sizeOf74
  isAgg_tAU := Tryd.isAgg74
  zeroValue_tAU := Tryd.zeroValue74
  underlying_tU64 := Tryd.underlying23
  runUnderlying_tU64 := Tryd.runUnderlying23
  sizeOf_tU64 := Tryd.sizeOf23
  isAgg_tU64 := Tryd.isAgg23
  zeroValue_tU64 := Tryd.zeroValue23
  underlying_tSh := Tryd.underlying99
  runUnderlying_tSh := Tryd.runUnderlying99
  sizeOf_tSh := Tryd.sizeOf99
  isAgg_tSh := Tryd.isAgg99
  zeroValue_tSh := Tryd.zeroValue99
  underlying_tU32 := Tryd.underlying75
  runUnderlying_tU32 := Tryd.runUnderlying75
  sizeOf_tU32 := Tryd.sizeOf75
  isAgg_tU32 := Tryd.isAgg75
  zeroValue_tU32 := Tryd.zeroValue75
  underlying_tPU32 := Tryd.underlying100
  runUnderlying_tPU32 := Tryd.runUnderlying100
  sizeOf_tPU32 := Tryd.sizeOf100
  isAgg_tPU32 := Tryd.isAgg100
  zeroValue_tPU32 := Tryd.zeroValue100
  underlying_tPAU := Tryd.underlying138
  runUnderlying_tPAU := Tryd.runUnderlying138
  sizeOf_tPAU := Tryd.sizeOf138
  isAgg_tPAU := Tryd.isAgg138
  zeroValue_tPAU := Tryd.zeroValue138
  underlying_tPU64 := Tryd.underlying140
  runUnderlying_tPU64 := Tryd.runUnderlying140
  sizeOf_tPU64 := Tryd.sizeOf140
  isAgg_tPU64 := Tryd.isAgg140
  zeroValue_tPU64 := Tryd.zeroValue140
  underlying_t0 := Tryd.underlying0
  runUnderlying_t0 := Tryd.runUnderlying0
  sizeOf_t0 := Tryd.sizeOf0
  isAgg_t0 := Tryd.isAgg0
  zeroValue_t0 := Tryd.zeroValue0
  underlying_t3 := Tryd.underlying3
  runUnderlying_t3 := Tryd.runUnderlying3
  sizeOf_t3 := Tryd.sizeOf3
  isAgg_t3 := Tryd.isAgg3
  zeroValue_t3 := Tryd.zeroValue3
  underlying_t4 := Tryd.underlying4
  runUnderlying_t4 := Tryd.runUnderlying4
  sizeOf_t4 := Tryd.sizeOf4
  isAgg_t4 := Tryd.isAgg4
  zeroValue_t4 := Tryd.zeroValue4
  underlying_t9 := Tryd.underlying9
  runUnderlying_t9 := Tryd.runUnderlying9
  sizeOf_t9 := Tryd.sizeOf9
  isAgg_t9 := Tryd.isAgg9
  zeroValue_t9 := Tryd.zeroValue9
  underlying_t20 := Tryd.underlying20
  runUnderlying_t20 := Tryd.runUnderlying20
  sizeOf_t20 := Tryd.sizeOf20
  isAgg_t20 := Tryd.isAgg20
  zeroValue_t20 := Tryd.zeroValue20
  underlying_t21 := Tryd.underlying21
  runUnderlying_t21 := Tryd.runUnderlying21
  sizeOf_t21 := Tryd.sizeOf21
  isAgg_t21 := Tryd.isAgg21
  zeroValue_t21 := Tryd.zeroValue21
  room_tWg := by kernel_rfl
  room_tU32 := by kernel_rfl
end Go.Proofs.YtmbfdhekplnoaaaDoor
