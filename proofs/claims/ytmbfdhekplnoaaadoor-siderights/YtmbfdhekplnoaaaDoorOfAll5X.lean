/-
  THE POOL OF THIS PROGRAM: from where the starter begins to hire.
  What one has made since, and what it holds; a region whose order is drawn, order by order.
  ofAll, from its entry.
-/
import Derived.Test.YtmbfdhekplnoaaaDoorOfAll3X
import Derived.Test.YtmbfdhekplnoaaaDoorMidX
import Derived.Conc.CompanyDraw
namespace Go.Proofs.YtmbfdhekplnoaaaDoor
open Go Go.Conc Go.RowKit Go.Conc.Lib Go.ConcR.Gen
open Go.ConcR (KK WgAt stA smA)

abbrev Made := Nat → Value → Value → (Nat → Prop) → World → Prop
def madeR (A : Made) : Nat → Value → (Nat → Prop) → World → Prop := fun i v X W => ∃ s e, v = .agg #[.int .i64 i, s, e] ∧ A i s e X W
noncomputable def ofFarm (Sh : Nat → Prop) (k : OfSlots) (A : Made) : Farm where
  P := Tryd.prog
  J := fun _ => True
  Sh := Sh
  Sy := fun _ => False
  cn := k.cn
  cb := k.cb
  M := k.M
  N := 0
  R := madeR A
  Done := fun _ _ _ => False
  Close := fun _ _ _ _ => False
  num := fun i => .int .i64 i
  Hold := fun _ => True
  Q := fun _ => false
  ga := stA k.wg
noncomputable def ofPool (Sh X : Nat → Prop) (Post : Value → World → Prop) (Env : World → Prop) (A : Made) (k : OfSlots) (cs : List Frame) : Pool where
  P := Tryd.prog
  Sh := fun b => Sh b ∨ X b
  cn := k.cn
  cb := k.cb
  M := k.M
  c := k.c
  R := madeR A
  num := fun i => .int .i64 i
  ty := lk.tWg
  Wg := k.wg
  Anch := fun O g W => ∃ lb x, WaitAt lk k.wg (ofWait k lb x) cs (OfAllIn (ofFarm (fun b => Sh b ∨ X b) k A) Env A lb) O g W
  After := Ends Tryd.prog Sh Post
section pool
variable {Sh X : Nat → Prop} {Post : Value → World → Prop} {Env : World → Prop} {A : Made} {k : OfSlots} {cs : List Frame}
structure PoolAsk (Sh X : Nat → Prop) (Env : World → Prop) (A : Made) (k : OfSlots) : Prop where
  K : WkAsk (ofFarm (fun b => Sh b ∨ X b) k A) Env k.fv A
  x : ∀ i s e Z W, A i s e Z W → ∀ b, Z b → b < W.heap.size ∧ b ≠ k.cn ∧ b ≠ k.wg
  cnb : k.cn ≠ k.cb
  wn : k.wg ≠ k.cn
  wb : k.wg ≠ k.cb
  few : k.M ≤ 1000
  fewc : k.c ≤ 1000
  staff : 0 < k.M → 0 < k.c
  sh : ¬ (Sh k.cn ∨ X k.cn) ∧ ¬ (Sh k.wg ∨ X k.wg)
  s5 : X k.b5
  s7 : X k.b7
  s8 : X k.b8
  cell : ∀ W, Env W → W.cell? ⟨k.b7, 0, none⟩ = some (.chan (some k.cn)) ∧ W.cell? ⟨k.b8, 0, none⟩ = some (.chan (some k.cb)) ∧ W.cell? ⟨k.b5, 0, none⟩ = some k.fv
theorem allin_to (F F' : Farm) (h1 : F'.Sh = F.Sh) (h2 : F'.cn = F.cn) (h3 : F'.ga = F.ga) (h4 : F'.M = F.M) {lb : Nat} {O : Nat → Prop} {W : World} (h : OfAllIn F Env A lb O W) : OfAllIn F' Env A lb O W := by
  obtain ⟨ds, a1, a2, a3, h⟩ := h
  refine ⟨ds, by rw [h4]; exact a1, a2, by rw [h4]; exact a3, ?_⟩
  exact ⟨h.env, by rw [h1]; exact h.lt, by rw [h2, h3]; exact h.free, by rw [h2, h3]; exact h.old, h.own, by rw [h1]; exact h.nsh, h.bare, by rw [h4]; exact h.row, h.got⟩
theorem allin_in {N : Nat} {q : Nat → Bool} {Sy : Nat → Prop} {lb : Nat} {O : Nat → Prop} {W : World} (h : OfAllIn (ofFarm (fun b => Sh b ∨ X b) k A) Env A lb O W) : OfAllIn ((ofPool Sh X Post Env A k cs).yard N q Sy).F Env A lb O W :=
  allin_to (ofFarm (fun b => Sh b ∨ X b) k A) ((ofPool Sh X Post Env A k cs).yard N q Sy).F rfl rfl rfl rfl h
theorem allin_out {N : Nat} {q : Nat → Bool} {Sy : Nat → Prop} {lb : Nat} {O : Nat → Prop} {W : World} (h : OfAllIn ((ofPool Sh X Post Env A k cs).yard N q Sy).F Env A lb O W) : OfAllIn (ofFarm (fun b => Sh b ∨ X b) k A) Env A lb O W :=
  allin_to ((ofPool Sh X Post Env A k cs).yard N q Sy).F (ofFarm (fun b => Sh b ∨ X b) k A) rfl rfl rfl rfl h
theorem PoolAsk.wk (Q : PoolAsk Sh X Env A k) {N : Nat} {q : Nat → Bool} {Sy : Nat → Prop} : WkAsk ((ofPool Sh X Post Env A k cs).farm N q Sy) Env k.fv A :=
  ⟨Q.K.rely, Q.K.call, Q.K.arely, Q.K.one, Q.K.put⟩
theorem PoolAsk.syncs {N : Nat} {q : Nat → Bool} {Sy : Nat → Prop} : ((ofPool Sh X Post Env A k cs).yard N q Sy).Syncs lk := ⟨lk_lib, rfl, fun _ => Iff.rfl⟩
theorem PoolAsk.of (Q : PoolAsk Sh X Env A k) {N : Nat} {q : Nat → Bool} {Sy : Nat → Prop} : OfAsk ((ofPool Sh X Post Env A k cs).yard N q Sy) Env A k where
  K := Q.wk
  P := rfl
  S := PoolAsk.syncs
  done := rfl
  close := fun _ => rfl
  num := fun _ => rfl
  R := fun i v Z W h => by
    obtain ⟨s, e, h1, h2⟩ := h
    exact ⟨s, e, h1, h2, Q.x i s e Z W h2⟩
  M := rfl
  cn := rfl
  cb := rfl
  wg := rfl
  ga := rfl
  few := Q.few
  sh := Q.sh
  s5 := .inr Q.s5
  s7 := .inr Q.s7
  s8 := .inr Q.s8
  cell := Q.cell
theorem of_back (k : OfSlots) (lb : Nat) (x : Array Value) (cs : List Frame) : ∃ x', G ((base 13).at ((⟨ofT k (.slice (some ⟨lb, 0, none⟩) k.M k.M) k.c x, []⟩ : Act).put ((ofOps10[0]?).bind (·.dst)) (.tuple #[])) (.inRegion ofOps10 [] :: [.code ofR11])) cs = ofDone k lb x' cs := by
  refine ⟨#[undef, undef, undef, x.getD 3 undef, x.getD 4 undef, undef, undef, undef, undef, undef, undef, undef, undef, undef, undef, undef, undef, x.getD 17 undef, x.getD 18 undef, x.getD 19 undef, x.getD 20 undef, x.getD 21 undef, x.getD 22 undef, x.getD 23 undef, x.getD 24 undef, x.getD 25 undef, .tuple #[], x.getD 27 undef], ?_⟩
  simp [ofDone, ofT, ofOps10, ofR11, ofR9, ofR, Tryd.f13, Act.put]
theorem PoolAsk.known (Q : PoolAsk Sh X Env A k) (hend : ∀ O lb x W, OfAllIn (ofFarm (fun b => Sh b ∨ X b) k A) Env A lb O W → Ends Tryd.prog Sh Post O (ofDone k lb x cs) W) : (ofPool Sh X Post Env A k cs).Known where
  cnb := Q.cnb
  wn := Q.wn
  wb := Q.wb
  rst := fun i v Z W W1 h r => by
    obtain ⟨s, e, h1, h2⟩ := h
    exact ⟨s, e, h1, Q.K.arely i s e Z W W1 h2 r⟩
  anch := fun N q Sy O g W h => by
    obtain ⟨lb, x, h⟩ := h
    have Q' : OfAsk ((ofPool Sh X Post Env A k cs).yard N q Sy) Env A k := Q.of
    refine wait_round (Y := (ofPool Sh X Post Env A k cs).yard N q Sy) (HF := OfAllIn (ofFarm (fun b => Sh b ∨ X b) k A) Env A lb) (b₀ := base 13) (a₀ := ⟨ofT k (.slice (some ⟨lb, 0, none⟩) k.M k.M) k.c x, []⟩) (ops₀ := ofOps10) (i₀ := 0) (rest₀ := []) (k₀ := [.code ofR11]) (cs := cs) PoolAsk.syncs (fun O W W1 r h => ?_) (fun O W d h => ?_) (fun O W a v ha h => ?_) (fun O g W h => Exists.intro lb (Exists.intro x h)) (fun O w h hl => ?_) g W h
    · exact allin_out (OfAllIn.rely (Y := (ofPool Sh X Post Env A k cs).yard N q Sy) Q.wk (allin_in h) r.r)
    · exact allin_out (OfAllIn.rely (Y := (ofPool Sh X Post Env A k cs).yard N q Sy) Q.wk (allin_in h) ⟨Nat.le_refl _, fun _ _ _ => rfl, rfl, rfl, rfl⟩)
    · exact allin_out (OfAllIn.turn (Y := (ofPool Sh X Post Env A k cs).yard N q Sy) Q.wk Q'.sh (allin_in h) (by simp [World.setCell]) (fun b _ hb => RowKit.Below.heap_setCell _ _ _ _ (fun e => hb (by rw [Q'.ga, ← ha]; exact e))) rfl rfl rfl)
    · obtain ⟨x', e⟩ := of_back k lb x cs
      rw [e]
      exact ⟨.stop, fun W1 r => hend O lb x' W1 (allin_out (OfAllIn.rely (Y := (ofPool Sh X Post Env A k cs).yard N q Sy) Q.wk (allin_in h) r.r))⟩
  aft := fun O g W h => h.1
  few := by show k.c < _; have := Q.fewc; omega
  some := Q.staff
theorem of_pool (Q : PoolAsk Sh X Env A k) (hend : ∀ O lb x W, OfAllIn (ofFarm (fun b => Sh b ∨ X b) k A) Env A lb O W → Ends Tryd.prog Sh Post O (ofDone k lb x cs) W)
    {O : Nat → Prop} {x : Array Value} {W : World} (hX : ∀ b, X b → O b) (hn : O k.cn) (hb : O k.cb) (hw : O k.wg) (xb : ¬ X k.cb) (cn : ∃ s tm, W.heap[k.cn]? = some (.chan 0 #[] false s s tm)) (cb : ∃ s tm, W.heap[k.cb]? = some (.chan 0 #[] false s s tm)) (wg : WgAt lk.tWg k.wg W 0 0)
    (env : Env W) (lt : ∀ b, O b ∨ Sh b → b < W.heap.size) : Ends Tryd.prog Sh Post O (ofHead k 0 x cs) W := by
  refine ⟨rfl, fun gs t sl Own Sy q hO h => ?_⟩
  subst hO
  refine Pool.run (p := ofPool Sh X Post Env A k cs) (Q.known hend) rfl rfl h hX hn hb hw (fun z => Q.sh.1 (.inr z)) xb (fun z => Q.sh.2 (.inr z)) cn cb wg fun N q Sy => ?_
  refine of_hire (Y := (ofPool Sh X Post Env A k cs).yard N q Sy) Q.of (fun lb x O g W h => ?_) Q.fewc k.c 0 x W (Nat.zero_add _) ⟨⟨env, fun b z => ?_⟩, fun b z => ⟨z.2.2.1, z.2.2.2.2⟩, ?_⟩
  · obtain ⟨h1, h2⟩ := h
    exact ⟨lb, x, allin_out h1, h2⟩
  · rcases z with z | z | z
    · exact lt b (.inl z.1)
    · exact lt b (.inr z)
    · exact lt b (.inl (hX b z))
  · exact ⟨lt _ (.inl hn), lt _ (.inl hw)⟩
end pool
end Go.Proofs.YtmbfdhekplnoaaaDoor

namespace Go.Proofs.YtmbfdhekplnoaaaDoor
open Go Go.Conc

def Lin (md : Region.Mode) (ops : Array Oper) : Nat → Array Bool → List Nat → Prop
  | 0, _, l => l = []
  | n + 1, d, l => (Region.ready md ops d = [] ∧ l = []) ∨ ∃ i, i ∈ Region.ready md ops d ∧ ∃ l', l = i :: l' ∧ Lin md ops n (d.setIfInBounds i true) l'
theorem lin_go {md : Region.Mode} {ops : Array Oper} : ∀ (n t : Nat) (d : Array Bool), Lin md ops n d (Region.linearise.go md ops n t d [])
  | 0, t, d => by simp [Region.linearise.go, Lin]
  | n + 1, t, d => by
    simp only [Region.linearise.go]
    change Lin md ops (n + 1) d (match (Region.ready md ops d)[t % (Region.ready md ops d).length]? with
      | some i => Region.linearise.go md ops n (t / (Region.ready md ops d).length) (d.setIfInBounds i true) [i]
      | none => [].reverse)
    cases hi : (Region.ready md ops d)[t % (Region.ready md ops d).length]? with
    | none =>
      refine .inl ⟨?_, rfl⟩
      cases hr : Region.ready md ops d with
      | nil => rfl
      | cons x xs =>
        rw [hr] at hi
        have hlt : t % (x :: xs).length < (x :: xs).length := Nat.mod_lt _ (by simp)
        simp at hi
        simp at hlt
        omega
    | some i =>
      refine .inr ⟨i, List.mem_of_getElem? hi, _, ?_, lin_go n (t / (Region.ready md ops d).length) (d.setIfInBounds i true)⟩
      simp only []
      rw [linearise_go_acc, List.reverse_singleton, List.singleton_append]
section draw
variable {P : Program} {main : Bool} {Sh : Nat → Prop} {Stop : Stp} {O : Nat → Prop} {w : World}
theorem walks_draw (hm : P.follows .mixedOrders = true) {b : Frame} {a : Act} {k : List Item} {cs : List Frame} {id : Nat} {ops : Array Oper} (h : ∀ l, Lin .any ops ops.size (Array.replicate ops.size false) l → Walks P main Sh Stop O (G (b.at a (.inRegion ops l :: k)) cs) w) : Walks P main Sh Stop O (G (b.at a (.code (.region id ops true) :: k)) cs) w := by
  refine Walks.step' rfl fun W1 hr => ⟨O, Conc.G (b.at a (.inRegion ops (Region.schedule (P.follows .mixedOrders) ops (W1.tape W1.drawn (.order b.fn id))) :: k)) cs, { W1 with drawn := W1.drawn + 1 }, #[], rfl, ?_, ?_⟩
  · exact ⟨Nat.le_refl _, fun _ _ _ => rfl, fun _ h => h, fun _ h => .inl h, fun b h1 h2 => absurd h2 (Nat.not_lt.2 h1), rfl, rfl, rfl, fun e h => by simp at h⟩
  · have := h (Region.schedule (P.follows .mixedOrders) ops (W1.tape W1.drawn (.order b.fn id))) (by simp only [Region.schedule, hm, Bool.true_or, if_true, Region.linearise]; exact lin_go _ _ _)
    exact this.rely ⟨hr.size, hr.keep, hr.tape, hr.os, hr.output⟩
end draw
structure Stock (O Sh : Nat → Prop) (W0 : World) (L : List (Nat × Obj)) (O' : Nat → Prop) (W : World) : Prop where
  own : ∀ b, O' b ↔ O b ∨ ∃ o, (b, o) ∈ L
  at_ : ∀ p ∈ L, W.heap[p.1]? = some p.2
  new : ∀ p ∈ L, W0.heap.size ≤ p.1
  nd : L.Pairwise fun p q => p.1 ≠ q.1
  lt : ∀ b, O b ∨ Sh b → b < W0.heap.size
  r : Rely O Sh W0 W
section stock
variable {O Sh : Nat → Prop} {W0 : World} {L : List (Nat × Obj)} {O' : Nat → Prop} {W W1 : World}
theorem Stock.begin (lt : ∀ b, O b ∨ Sh b → b < W.heap.size) : Stock O Sh W [] O W := ⟨fun _ => ⟨.inl, fun h => h.elim id fun ⟨_, q⟩ => absurd q List.not_mem_nil⟩, fun _ hp => absurd hp List.not_mem_nil, fun _ hp => absurd hp List.not_mem_nil, List.Pairwise.nil, lt, Rely.refl _ _ _⟩
theorem Stock.size (h : Stock O Sh W0 L O' W) {p : Nat × Obj} (hp : p ∈ L) : p.1 < W.heap.size := (Array.getElem?_eq_some_iff.1 (h.at_ p hp)).1
theorem Stock.rely (h : Stock O Sh W0 L O' W) (r : Rely O' Sh W W1) : Stock O Sh W0 L O' W1 where
  own := h.own
  at_ := fun p hp => (r.keep p.1 (h.size hp) (.inl ((h.own p.1).2 (.inr ⟨p.2, hp⟩)))).trans (h.at_ p hp)
  new := h.new
  nd := h.nd
  lt := h.lt
  r := ⟨Nat.le_trans h.r.size r.size, fun b hb q => (r.keep b (Nat.lt_of_lt_of_le hb h.r.size) (q.imp (fun z => (h.own b).2 (.inl z)) id)).trans (h.r.keep b hb q), r.tape.trans h.r.tape, r.os.trans h.r.os, r.output.trans h.r.output⟩
theorem Stock.alloc (h : Stock O Sh W0 L O' W) (o : Obj) : Stock O Sh W0 ((W.heap.size, o) :: L) (fun b => O' b ∨ b = W.heap.size) (W.alloc o) where
  own := fun b => by
    constructor
    · rintro (q | q)
      · exact ((h.own b).1 q).imp id fun ⟨o, z⟩ => ⟨o, .tail _ z⟩
      · exact .inr ⟨o, q ▸ .head _⟩
    · rintro (q | ⟨o', q⟩)
      · exact .inl ((h.own b).2 (.inl q))
      · rcases List.mem_cons.1 q with e | q
        · exact .inr (congrArg Prod.fst e)
        · exact .inl ((h.own b).2 (.inr ⟨o', q⟩))
  at_ := fun p hp => by
    rcases List.mem_cons.1 hp with rfl | hp
    · exact Array.getElem?_push_size
    · have := h.size hp
      show (W.heap.push o)[p.1]? = _
      rw [Array.getElem?_push_lt this, ← Array.getElem?_eq_getElem this]
      exact h.at_ p hp
  new := fun p hp => by
    rcases List.mem_cons.1 hp with rfl | hp
    · exact h.r.size
    · exact h.new p hp
  nd := .cons (fun p hp e => by have := h.size hp; omega) h.nd
  lt := h.lt
  r := ⟨Nat.le_trans h.r.size (by simp), fun b hb q => by
    have hb' : b < W.heap.size := Nat.lt_of_lt_of_le hb h.r.size
    show (W.heap.push o)[b]? = _
    rw [Array.getElem?_push_lt hb', ← Array.getElem?_eq_getElem hb']
    exact h.r.keep b hb q, h.r.tape, h.r.os, h.r.output⟩
theorem Stock.fresh (h : Stock O Sh W0 L O' W) {n : Nat} {o : Obj} (hp : (n, o) ∈ L) : n ≠ W.heap.size := Nat.ne_of_lt (h.size hp)
theorem Stock.cell (h : Stock O Sh W0 L O' W) {n : Nat} {v : Value} {ty : TypeId} (hp : (n, .cells #[v] ty (0, 0)) ∈ L) : W.cell? ⟨n, 0, none⟩ = some v ∧ W.frozen? ⟨n, 0, none⟩ = false := by
  have := h.at_ _ hp
  simp only at this
  simp [World.cell?, World.frozen?, this]
theorem Stock.set (h : Stock O Sh W0 L O' W) {N : Nat} {c : Array Value} {ty : TypeId} {fr : Nat × Nat} (hN : (N, .cells c ty fr) ∈ L) (j : Nat) (v : Value) : Stock O Sh W0 (L.map fun p => if p.1 = N then (N, .cells (c.setIfInBounds j v) ty fr) else p) O' (W.setCell ⟨N, j, none⟩ v) := by
  have hk : ∀ b, b ≠ N → (W.setCell ⟨N, j, none⟩ v).heap[b]? = W.heap[b]? := fun b q => RowKit.Below.heap_setCell _ _ _ _ (fun e => q e)
  have hh : (W.setCell ⟨N, j, none⟩ v).heap[N]? = some (.cells (c.setIfInBounds j v) ty fr) := by
    have := h.at_ _ hN
    simp only at this
    simp [World.setCell, Array.getElem?_modify, this]
  have hsz : (W.setCell ⟨N, j, none⟩ v).heap.size = W.heap.size := by simp [World.setCell]
  have fst : ∀ p : Nat × Obj, (if p.1 = N then (N, Obj.cells (c.setIfInBounds j v) ty fr) else p).1 = p.1 := fun p => by
    by_cases e : p.1 = N
    · rw [if_pos e]; exact e.symm
    · rw [if_neg e]
  refine ⟨fun b => (h.own b).trans (or_congr Iff.rfl ⟨fun ⟨o, q⟩ => ?_, fun ⟨o, q⟩ => ?_⟩), fun p hp => ?_, fun p hp => ?_, ?_, h.lt, ?_⟩
  · by_cases e : b = N
    · exact ⟨_, List.mem_map.2 ⟨(b, o), q, by rw [if_pos e, e]⟩⟩
    · exact ⟨o, List.mem_map.2 ⟨(b, o), q, by rw [if_neg e]⟩⟩
  · obtain ⟨p, hp, e⟩ := List.mem_map.1 q
    have := fst p
    rw [e] at this
    have this : b = p.1 := this
    exact ⟨p.2, this ▸ hp⟩
  · obtain ⟨p, hp1, rfl⟩ := List.mem_map.1 hp
    by_cases e : p.1 = N
    · rw [if_pos e]; exact hh
    · rw [if_neg e, hk _ e]; exact h.at_ p hp1
  · obtain ⟨p, hp1, rfl⟩ := List.mem_map.1 hp
    rw [fst]; exact h.new p hp1
  · rw [List.pairwise_map]
    exact h.nd.imp fun {p q} z => by rw [fst, fst]; exact z
  · refine ⟨by rw [hsz]; exact h.r.size, fun b hb q => ?_, h.r.tape, h.r.os, h.r.output⟩
    rw [hk b fun e => ?_]
    · exact h.r.keep b hb q
    · have := h.new _ hN
      simp only at this
      omega
end stock
end Go.Proofs.YtmbfdhekplnoaaaDoor

namespace Go.Proofs.YtmbfdhekplnoaaaDoor
open Go Go.Conc Go.RowKit Go.Conc.Lib Go.ConcR.Gen
open Go.ConcR (KK WgAt stA smA)

theorem mixed : Tryd.prog.follows .mixedOrders = true := by kernel_rfl
noncomputable def ofOps1 : Array Oper := match Tryd.f13.body with
  | some (.seq _ (.seq (.region _ ops _) _)) => ops
  | _ => #[]
noncomputable def ofC2 : Code := match Tryd.f13.body with
  | some (.seq _ (.seq _ c)) => c
  | _ => .skip
theorem mk_n (w : World) (es : Array Event) : (Instr.makeChan 67 (.int .i64 0)).events Tryd.prog w es = es := by kernel_rfl
theorem mk_b (w : World) (es : Array Event) : (Instr.makeChan 68 (.int .i64 0)).events Tryd.prog w es = es := by kernel_rfl
def OfD (Sh O : Nat → Prop) (Stop : Stp) (cs : List Frame) (M : Nat) (wk : Int) (ff : Nat) (cap : Array Value) (W0 : World) (b5 : Nat) : Prop :=
  ∀ cn cb b7 b8 L O' W, Stock O Sh W0 L O' W → (b5, .cells #[(.func (.func ff) #[] cap)] 47 (0, 0)) ∈ L → (cn, (.chan 0 #[] false 0 0 false)) ∈ L → (cb, (.chan 0 #[] false 0 0 false)) ∈ L → (b7, .cells #[.chan (some cn)] 67 (0, 0)) ∈ L → (b8, .cells #[.chan (some cb)] 68 (0, 0)) ∈ L → [b5, cn, cb, b7, b8].Pairwise (· ≠ ·) → Walks Tryd.prog true Sh Stop O' (G ((base 13).at ⟨#[.int .i64 M, .int .i64 wk, (.func (.func ff) #[] cap), undef, undef, .pointer (some ⟨b5, 0, none⟩), .slice none 0 0, .pointer (some ⟨b7, 0, none⟩), .pointer (some ⟨b8, 0, none⟩), undef, undef, .chan (some cn), .chan (some cb), undef, undef, undef, undef, undef, undef, undef, undef, undef, undef, undef, undef, undef, undef, undef], []⟩ [.code ofC2]) cs) W
section of
variable {Sh O : Nat → Prop} {Stop : Stp} {cs : List Frame} {M : Nat} {wk : Int} {ff : Nat} {cap : Array Value} {W0 : World}
set_option maxRecDepth 100000 in
set_option maxHeartbeats 1000000 in
theorem of_d012345 {b5 cn cb b7 b8 : Nat} (h : OfD Sh O Stop cs M wk ff cap W0 b5)
    {L : List (Nat × Obj)} {O' : Nat → Prop} {W : World} (hS : Stock O Sh W0 L O' W) (m5 : (b5, .cells #[(.func (.func ff) #[] cap)] 47 (0, 0)) ∈ L) (m0 : (cn, (.chan 0 #[] false 0 0 false)) ∈ L) (m1 : (cb, (.chan 0 #[] false 0 0 false)) ∈ L) (m2 : (b7, (.cells #[.chan (some cn)] 67 (0, 0))) ∈ L) (m3 : (b8, (.cells #[.chan (some cb)] 68 (0, 0))) ∈ L) (e_b5_cn : b5 ≠ cn) (e_b5_cb : b5 ≠ cb) (e_b5_b7 : b5 ≠ b7) (e_b5_b8 : b5 ≠ b8) (e_cn_cb : cn ≠ cb) (e_cn_b7 : cn ≠ b7) (e_cn_b8 : cn ≠ b8) (e_cb_b7 : cb ≠ b7) (e_cb_b8 : cb ≠ b8) (e_b7_b8 : b7 ≠ b8) {l : List Nat} (hl : Lin .any ofOps1 0 #[true, true, true, true, true, true] l) : Walks Tryd.prog true Sh Stop O' (G ((base 13).at ⟨#[.int .i64 M, .int .i64 wk, (.func (.func ff) #[] cap), undef, undef, .pointer (some ⟨b5, 0, none⟩), .slice none 0 0, .pointer (some ⟨b7, 0, none⟩), .pointer (some ⟨b8, 0, none⟩), undef, undef, .chan (some cn), .chan (some cb), undef, undef, undef, undef, undef, undef, undef, undef, undef, undef, undef, undef, undef, undef, undef], []⟩ [.inRegion ofOps1 l, .code ofC2]) cs) W := by
  obtain rfl := hl
  refine Walks.idle rfl (fun _ => stepG_region_end) ?_
  exact h cn cb b7 b8 L O' W hS m5 m0 m1 m2 m3 (by simp [List.pairwise_cons, e_b5_cn, e_b5_cb, e_b5_b7, e_b5_b8, e_cn_cb, e_cn_b7, e_cn_b8, e_cb_b7, e_cb_b8, e_b7_b8])
set_option maxRecDepth 100000 in
set_option maxHeartbeats 1000000 in
theorem of_d01234 {b5 cn cb b7 b8 : Nat} (h : OfD Sh O Stop cs M wk ff cap W0 b5)
    {L : List (Nat × Obj)} {O' : Nat → Prop} {W : World} (hS : Stock O Sh W0 L O' W) (m5 : (b5, .cells #[(.func (.func ff) #[] cap)] 47 (0, 0)) ∈ L) (m0 : (cn, (.chan 0 #[] false 0 0 false)) ∈ L) (m1 : (cb, (.chan 0 #[] false 0 0 false)) ∈ L) (m2 : (b7, (.cells #[.chan (some cn)] 67 (0, 0))) ∈ L) (m3 : (b8, (.cells #[.chan none] 68 (0, 0))) ∈ L) (e_b5_cn : b5 ≠ cn) (e_b5_cb : b5 ≠ cb) (e_b5_b7 : b5 ≠ b7) (e_b5_b8 : b5 ≠ b8) (e_cn_cb : cn ≠ cb) (e_cn_b7 : cn ≠ b7) (e_cn_b8 : cn ≠ b8) (e_cb_b7 : cb ≠ b7) (e_cb_b8 : cb ≠ b8) (e_b7_b8 : b7 ≠ b8) {l : List Nat} (hl : Lin .any ofOps1 1 #[true, true, true, true, true, false] l) : Walks Tryd.prog true Sh Stop O' (G ((base 13).at ⟨#[.int .i64 M, .int .i64 wk, (.func (.func ff) #[] cap), undef, undef, .pointer (some ⟨b5, 0, none⟩), .slice none 0 0, .pointer (some ⟨b7, 0, none⟩), .pointer (some ⟨b8, 0, none⟩), undef, undef, .chan (some cn), .chan (some cb), undef, undef, undef, undef, undef, undef, undef, undef, undef, undef, undef, undef, undef, undef, undef], []⟩ [.inRegion ofOps1 l, .code ofC2]) cs) W := by
  have hr : Region.ready .any ofOps1 #[true, true, true, true, true, false] = [5] := by kernel_rfl
  rcases hl with ⟨h0, _⟩ | ⟨i, hi, l, rfl, hl⟩
  · rw [hr] at h0; cases h0
  rw [hr] at hi
  simp only [List.mem_cons, List.not_mem_nil, or_false] at hi
  subst hi
  · replace hl : Lin .any ofOps1 0 #[true, true, true, true, true, true] l := hl
    refine walks_goes rfl (fun W1 hr => ?_)
    replace hS := hS.rely hr
    clear hr
    obtain ⟨k0, g0⟩ := hS.cell m3
    refine goes_oper_k rfl rfl (by k_ne) (fun K' hK => ?_)
    simp only [ofOps1, Tryd.f13]
    go_simp
    refine hK _ _ ⟨_, guar_set ((hS.own _).2 (.inr ⟨_, m3⟩)) (fun e he => ?_), ?_⟩
    · have hm := mem_listed he
      simp [ofOps1, Tryd.f13, go_sem, *] at hm
      subst hm
      exact ⟨_, _, rfl, (hS.own _).2 (.inr ⟨_, m3⟩)⟩
    clear hK K' k0 g0
    replace hS := hS.set m3 0 (.chan (some cb))
    exact of_d012345 h hS (List.mem_map.2 ⟨_, m5, if_neg e_b5_b8⟩) (List.mem_map.2 ⟨_, m0, if_neg e_cn_b8⟩) (List.mem_map.2 ⟨_, m1, if_neg e_cb_b8⟩) (List.mem_map.2 ⟨_, m2, if_neg e_b7_b8⟩) (List.mem_map.2 ⟨_, m3, if_pos rfl⟩) e_b5_cn e_b5_cb e_b5_b7 e_b5_b8 e_cn_cb e_cn_b7 e_cn_b8 e_cb_b7 e_cb_b8 e_b7_b8 hl
set_option maxRecDepth 100000 in
set_option maxHeartbeats 1000000 in
theorem of_d0123 {b5 cn cb b7 b8 : Nat} (h : OfD Sh O Stop cs M wk ff cap W0 b5)
    {L : List (Nat × Obj)} {O' : Nat → Prop} {W : World} (hS : Stock O Sh W0 L O' W) (m5 : (b5, .cells #[(.func (.func ff) #[] cap)] 47 (0, 0)) ∈ L) (m0 : (cn, (.chan 0 #[] false 0 0 false)) ∈ L) (m1 : (cb, (.chan 0 #[] false 0 0 false)) ∈ L) (m2 : (b7, (.cells #[.chan none] 67 (0, 0))) ∈ L) (m3 : (b8, (.cells #[.chan none] 68 (0, 0))) ∈ L) (e_b5_cn : b5 ≠ cn) (e_b5_cb : b5 ≠ cb) (e_b5_b7 : b5 ≠ b7) (e_b5_b8 : b5 ≠ b8) (e_cn_cb : cn ≠ cb) (e_cn_b7 : cn ≠ b7) (e_cn_b8 : cn ≠ b8) (e_cb_b7 : cb ≠ b7) (e_cb_b8 : cb ≠ b8) (e_b7_b8 : b7 ≠ b8) {l : List Nat} (hl : Lin .any ofOps1 2 #[true, true, true, true, false, false] l) : Walks Tryd.prog true Sh Stop O' (G ((base 13).at ⟨#[.int .i64 M, .int .i64 wk, (.func (.func ff) #[] cap), undef, undef, .pointer (some ⟨b5, 0, none⟩), .slice none 0 0, .pointer (some ⟨b7, 0, none⟩), .pointer (some ⟨b8, 0, none⟩), undef, undef, .chan (some cn), .chan (some cb), undef, undef, undef, undef, undef, undef, undef, undef, undef, undef, undef, undef, undef, undef, undef], []⟩ [.inRegion ofOps1 l, .code ofC2]) cs) W := by
  have hr : Region.ready .any ofOps1 #[true, true, true, true, false, false] = [4] := by kernel_rfl
  rcases hl with ⟨h0, _⟩ | ⟨i, hi, l, rfl, hl⟩
  · rw [hr] at h0; cases h0
  rw [hr] at hi
  simp only [List.mem_cons, List.not_mem_nil, or_false] at hi
  subst hi
  · replace hl : Lin .any ofOps1 1 #[true, true, true, true, true, false] l := hl
    refine walks_goes rfl (fun W1 hr => ?_)
    replace hS := hS.rely hr
    clear hr
    obtain ⟨k0, g0⟩ := hS.cell m2
    refine goes_oper_k rfl rfl (by k_ne) (fun K' hK => ?_)
    simp only [ofOps1, Tryd.f13]
    go_simp
    refine hK _ _ ⟨_, guar_set ((hS.own _).2 (.inr ⟨_, m2⟩)) (fun e he => ?_), ?_⟩
    · have hm := mem_listed he
      simp [ofOps1, Tryd.f13, go_sem, *] at hm
      subst hm
      exact ⟨_, _, rfl, (hS.own _).2 (.inr ⟨_, m2⟩)⟩
    clear hK K' k0 g0
    replace hS := hS.set m2 0 (.chan (some cn))
    exact of_d01234 h hS (List.mem_map.2 ⟨_, m5, if_neg e_b5_b7⟩) (List.mem_map.2 ⟨_, m0, if_neg e_cn_b7⟩) (List.mem_map.2 ⟨_, m1, if_neg e_cb_b7⟩) (List.mem_map.2 ⟨_, m2, if_pos rfl⟩) (List.mem_map.2 ⟨_, m3, if_neg e_b7_b8.symm⟩) e_b5_cn e_b5_cb e_b5_b7 e_b5_b8 e_cn_cb e_cn_b7 e_cn_b8 e_cb_b7 e_cb_b8 e_b7_b8 hl
set_option maxRecDepth 100000 in
set_option maxHeartbeats 1000000 in
theorem of_d012 {b5 cn cb b7 : Nat} (h : OfD Sh O Stop cs M wk ff cap W0 b5)
    {L : List (Nat × Obj)} {O' : Nat → Prop} {W : World} (hS : Stock O Sh W0 L O' W) (m5 : (b5, .cells #[(.func (.func ff) #[] cap)] 47 (0, 0)) ∈ L) (m0 : (cn, (.chan 0 #[] false 0 0 false)) ∈ L) (m1 : (cb, (.chan 0 #[] false 0 0 false)) ∈ L) (m2 : (b7, (.cells #[.chan none] 67 (0, 0))) ∈ L) (e_b5_cn : b5 ≠ cn) (e_b5_cb : b5 ≠ cb) (e_b5_b7 : b5 ≠ b7) (e_cn_cb : cn ≠ cb) (e_cn_b7 : cn ≠ b7) (e_cb_b7 : cb ≠ b7) {l : List Nat} (hl : Lin .any ofOps1 3 #[true, true, true, false, false, false] l) : Walks Tryd.prog true Sh Stop O' (G ((base 13).at ⟨#[.int .i64 M, .int .i64 wk, (.func (.func ff) #[] cap), undef, undef, .pointer (some ⟨b5, 0, none⟩), .slice none 0 0, .pointer (some ⟨b7, 0, none⟩), undef, undef, undef, .chan (some cn), .chan (some cb), undef, undef, undef, undef, undef, undef, undef, undef, undef, undef, undef, undef, undef, undef, undef], []⟩ [.inRegion ofOps1 l, .code ofC2]) cs) W := by
  have hr : Region.ready .any ofOps1 #[true, true, true, false, false, false] = [3] := by kernel_rfl
  rcases hl with ⟨h0, _⟩ | ⟨i, hi, l, rfl, hl⟩
  · rw [hr] at h0; cases h0
  rw [hr] at hi
  simp only [List.mem_cons, List.not_mem_nil, or_false] at hi
  subst hi
  · replace hl : Lin .any ofOps1 2 #[true, true, true, true, false, false] l := hl
    refine walks_goes rfl (fun W1 hr => ?_)
    replace hS := hS.rely hr
    clear hr
    refine goes_oper_k rfl rfl (by k_ne) (fun K' hK => ?_)
    simp only [ofOps1, Tryd.f13]
    go_simp
    refine hK _ _ ⟨_, guar_alloc (fun e he => by have hm := mem_listed he; simp [ofOps1, Tryd.f13, go_sem, *] at hm), ?_⟩
    have f5 := hS.fresh m5
    have f0 := hS.fresh m0
    have f1 := hS.fresh m1
    have f2 := hS.fresh m2
    clear hK K'
    replace hS := hS.alloc (.cells #[.chan none] 68 (0, 0))
    generalize W1.heap.size = b8 at *
    exact of_d0123 h hS (.tail _ m5) (.tail _ m0) (.tail _ m1) (.tail _ m2) (.head _) e_b5_cn e_b5_cb e_b5_b7 f5 e_cn_cb e_cn_b7 f0 e_cb_b7 f1 f2 hl
set_option maxRecDepth 100000 in
set_option maxHeartbeats 1000000 in
theorem of_d013 {b5 cn cb b8 : Nat} (h : OfD Sh O Stop cs M wk ff cap W0 b5)
    {L : List (Nat × Obj)} {O' : Nat → Prop} {W : World} (hS : Stock O Sh W0 L O' W) (m5 : (b5, .cells #[(.func (.func ff) #[] cap)] 47 (0, 0)) ∈ L) (m0 : (cn, (.chan 0 #[] false 0 0 false)) ∈ L) (m1 : (cb, (.chan 0 #[] false 0 0 false)) ∈ L) (m3 : (b8, (.cells #[.chan none] 68 (0, 0))) ∈ L) (e_b5_cn : b5 ≠ cn) (e_b5_cb : b5 ≠ cb) (e_b5_b8 : b5 ≠ b8) (e_cn_cb : cn ≠ cb) (e_cn_b8 : cn ≠ b8) (e_cb_b8 : cb ≠ b8) {l : List Nat} (hl : Lin .any ofOps1 3 #[true, true, false, true, false, false] l) : Walks Tryd.prog true Sh Stop O' (G ((base 13).at ⟨#[.int .i64 M, .int .i64 wk, (.func (.func ff) #[] cap), undef, undef, .pointer (some ⟨b5, 0, none⟩), .slice none 0 0, undef, .pointer (some ⟨b8, 0, none⟩), undef, undef, .chan (some cn), .chan (some cb), undef, undef, undef, undef, undef, undef, undef, undef, undef, undef, undef, undef, undef, undef, undef], []⟩ [.inRegion ofOps1 l, .code ofC2]) cs) W := by
  have hr : Region.ready .any ofOps1 #[true, true, false, true, false, false] = [2] := by kernel_rfl
  rcases hl with ⟨h0, _⟩ | ⟨i, hi, l, rfl, hl⟩
  · rw [hr] at h0; cases h0
  rw [hr] at hi
  simp only [List.mem_cons, List.not_mem_nil, or_false] at hi
  subst hi
  · replace hl : Lin .any ofOps1 2 #[true, true, true, true, false, false] l := hl
    refine walks_goes rfl (fun W1 hr => ?_)
    replace hS := hS.rely hr
    clear hr
    refine goes_oper_k rfl rfl (by k_ne) (fun K' hK => ?_)
    simp only [ofOps1, Tryd.f13]
    go_simp
    refine hK _ _ ⟨_, guar_alloc (fun e he => by have hm := mem_listed he; simp [ofOps1, Tryd.f13, go_sem, *] at hm), ?_⟩
    have f5 := hS.fresh m5
    have f0 := hS.fresh m0
    have f1 := hS.fresh m1
    have f3 := hS.fresh m3
    clear hK K'
    replace hS := hS.alloc (.cells #[.chan none] 67 (0, 0))
    generalize W1.heap.size = b7 at *
    exact of_d0123 h hS (.tail _ m5) (.tail _ m0) (.tail _ m1) (.head _) (.tail _ m3) e_b5_cn e_b5_cb f5 e_b5_b8 e_cn_cb f0 e_cn_b8 f1 e_cb_b8 f3.symm hl
set_option maxRecDepth 100000 in
set_option maxHeartbeats 1000000 in
theorem of_d01 {b5 cn cb : Nat} (h : OfD Sh O Stop cs M wk ff cap W0 b5)
    {L : List (Nat × Obj)} {O' : Nat → Prop} {W : World} (hS : Stock O Sh W0 L O' W) (m5 : (b5, .cells #[(.func (.func ff) #[] cap)] 47 (0, 0)) ∈ L) (m0 : (cn, (.chan 0 #[] false 0 0 false)) ∈ L) (m1 : (cb, (.chan 0 #[] false 0 0 false)) ∈ L) (e_b5_cn : b5 ≠ cn) (e_b5_cb : b5 ≠ cb) (e_cn_cb : cn ≠ cb) {l : List Nat} (hl : Lin .any ofOps1 4 #[true, true, false, false, false, false] l) : Walks Tryd.prog true Sh Stop O' (G ((base 13).at ⟨#[.int .i64 M, .int .i64 wk, (.func (.func ff) #[] cap), undef, undef, .pointer (some ⟨b5, 0, none⟩), .slice none 0 0, undef, undef, undef, undef, .chan (some cn), .chan (some cb), undef, undef, undef, undef, undef, undef, undef, undef, undef, undef, undef, undef, undef, undef, undef], []⟩ [.inRegion ofOps1 l, .code ofC2]) cs) W := by
  have hr : Region.ready .any ofOps1 #[true, true, false, false, false, false] = [2, 3] := by kernel_rfl
  rcases hl with ⟨h0, _⟩ | ⟨i, hi, l, rfl, hl⟩
  · rw [hr] at h0; cases h0
  rw [hr] at hi
  simp only [List.mem_cons, List.not_mem_nil, or_false] at hi
  rcases hi with rfl | rfl
  · replace hl : Lin .any ofOps1 3 #[true, true, true, false, false, false] l := hl
    refine walks_goes rfl (fun W1 hr => ?_)
    replace hS := hS.rely hr
    clear hr
    refine goes_oper_k rfl rfl (by k_ne) (fun K' hK => ?_)
    simp only [ofOps1, Tryd.f13]
    go_simp
    refine hK _ _ ⟨_, guar_alloc (fun e he => by have hm := mem_listed he; simp [ofOps1, Tryd.f13, go_sem, *] at hm), ?_⟩
    have f5 := hS.fresh m5
    have f0 := hS.fresh m0
    have f1 := hS.fresh m1
    clear hK K'
    replace hS := hS.alloc (.cells #[.chan none] 67 (0, 0))
    generalize W1.heap.size = b7 at *
    exact of_d012 h hS (.tail _ m5) (.tail _ m0) (.tail _ m1) (.head _) e_b5_cn e_b5_cb f5 e_cn_cb f0 f1 hl
  · replace hl : Lin .any ofOps1 3 #[true, true, false, true, false, false] l := hl
    refine walks_goes rfl (fun W1 hr => ?_)
    replace hS := hS.rely hr
    clear hr
    refine goes_oper_k rfl rfl (by k_ne) (fun K' hK => ?_)
    simp only [ofOps1, Tryd.f13]
    go_simp
    refine hK _ _ ⟨_, guar_alloc (fun e he => by have hm := mem_listed he; simp [ofOps1, Tryd.f13, go_sem, *] at hm), ?_⟩
    have f5 := hS.fresh m5
    have f0 := hS.fresh m0
    have f1 := hS.fresh m1
    clear hK K'
    replace hS := hS.alloc (.cells #[.chan none] 68 (0, 0))
    generalize W1.heap.size = b8 at *
    exact of_d013 h hS (.tail _ m5) (.tail _ m0) (.tail _ m1) (.head _) e_b5_cn e_b5_cb f5 e_cn_cb f0 f1 hl
set_option maxRecDepth 100000 in
set_option maxHeartbeats 1000000 in
theorem of_d0234 {b5 cn b7 b8 : Nat} (h : OfD Sh O Stop cs M wk ff cap W0 b5)
    {L : List (Nat × Obj)} {O' : Nat → Prop} {W : World} (hS : Stock O Sh W0 L O' W) (m5 : (b5, .cells #[(.func (.func ff) #[] cap)] 47 (0, 0)) ∈ L) (m0 : (cn, (.chan 0 #[] false 0 0 false)) ∈ L) (m2 : (b7, (.cells #[.chan (some cn)] 67 (0, 0))) ∈ L) (m3 : (b8, (.cells #[.chan none] 68 (0, 0))) ∈ L) (e_b5_cn : b5 ≠ cn) (e_b5_b7 : b5 ≠ b7) (e_b5_b8 : b5 ≠ b8) (e_cn_b7 : cn ≠ b7) (e_cn_b8 : cn ≠ b8) (e_b7_b8 : b7 ≠ b8) {l : List Nat} (hl : Lin .any ofOps1 2 #[true, false, true, true, true, false] l) : Walks Tryd.prog true Sh Stop O' (G ((base 13).at ⟨#[.int .i64 M, .int .i64 wk, (.func (.func ff) #[] cap), undef, undef, .pointer (some ⟨b5, 0, none⟩), .slice none 0 0, .pointer (some ⟨b7, 0, none⟩), .pointer (some ⟨b8, 0, none⟩), undef, undef, .chan (some cn), undef, undef, undef, undef, undef, undef, undef, undef, undef, undef, undef, undef, undef, undef, undef, undef], []⟩ [.inRegion ofOps1 l, .code ofC2]) cs) W := by
  have hr : Region.ready .any ofOps1 #[true, false, true, true, true, false] = [1] := by kernel_rfl
  rcases hl with ⟨h0, _⟩ | ⟨i, hi, l, rfl, hl⟩
  · rw [hr] at h0; cases h0
  rw [hr] at hi
  simp only [List.mem_cons, List.not_mem_nil, or_false] at hi
  subst hi
  · replace hl : Lin .any ofOps1 1 #[true, true, true, true, true, false] l := hl
    refine walks_goes rfl (fun W1 hr => ?_)
    replace hS := hS.rely hr
    clear hr
    refine goes_oper_k rfl rfl (by k_ne) (fun K' hK => ?_)
    simp only [ofOps1, Tryd.f13]
    go_simp
    refine hK _ _ ⟨_, guar_alloc (fun e he => by have hm := mem_listed he; simp [ofOps1, Tryd.f13, go_sem, mk_b, *] at hm), ?_⟩
    have f5 := hS.fresh m5
    have f0 := hS.fresh m0
    have f2 := hS.fresh m2
    have f3 := hS.fresh m3
    clear hK K'
    replace hS := hS.alloc (.chan 0 #[] false 0 0 false)
    generalize W1.heap.size = cb at *
    exact of_d01234 h hS (.tail _ m5) (.tail _ m0) (.head _) (.tail _ m2) (.tail _ m3) e_b5_cn f5 e_b5_b7 e_b5_b8 f0 e_cn_b7 e_cn_b8 f2.symm f3.symm e_b7_b8 hl
set_option maxRecDepth 100000 in
set_option maxHeartbeats 1000000 in
theorem of_d023 {b5 cn b7 b8 : Nat} (h : OfD Sh O Stop cs M wk ff cap W0 b5)
    {L : List (Nat × Obj)} {O' : Nat → Prop} {W : World} (hS : Stock O Sh W0 L O' W) (m5 : (b5, .cells #[(.func (.func ff) #[] cap)] 47 (0, 0)) ∈ L) (m0 : (cn, (.chan 0 #[] false 0 0 false)) ∈ L) (m2 : (b7, (.cells #[.chan none] 67 (0, 0))) ∈ L) (m3 : (b8, (.cells #[.chan none] 68 (0, 0))) ∈ L) (e_b5_cn : b5 ≠ cn) (e_b5_b7 : b5 ≠ b7) (e_b5_b8 : b5 ≠ b8) (e_cn_b7 : cn ≠ b7) (e_cn_b8 : cn ≠ b8) (e_b7_b8 : b7 ≠ b8) {l : List Nat} (hl : Lin .any ofOps1 3 #[true, false, true, true, false, false] l) : Walks Tryd.prog true Sh Stop O' (G ((base 13).at ⟨#[.int .i64 M, .int .i64 wk, (.func (.func ff) #[] cap), undef, undef, .pointer (some ⟨b5, 0, none⟩), .slice none 0 0, .pointer (some ⟨b7, 0, none⟩), .pointer (some ⟨b8, 0, none⟩), undef, undef, .chan (some cn), undef, undef, undef, undef, undef, undef, undef, undef, undef, undef, undef, undef, undef, undef, undef, undef], []⟩ [.inRegion ofOps1 l, .code ofC2]) cs) W := by
  have hr : Region.ready .any ofOps1 #[true, false, true, true, false, false] = [1, 4] := by kernel_rfl
  rcases hl with ⟨h0, _⟩ | ⟨i, hi, l, rfl, hl⟩
  · rw [hr] at h0; cases h0
  rw [hr] at hi
  simp only [List.mem_cons, List.not_mem_nil, or_false] at hi
  rcases hi with rfl | rfl
  · replace hl : Lin .any ofOps1 2 #[true, true, true, true, false, false] l := hl
    refine walks_goes rfl (fun W1 hr => ?_)
    replace hS := hS.rely hr
    clear hr
    refine goes_oper_k rfl rfl (by k_ne) (fun K' hK => ?_)
    simp only [ofOps1, Tryd.f13]
    go_simp
    refine hK _ _ ⟨_, guar_alloc (fun e he => by have hm := mem_listed he; simp [ofOps1, Tryd.f13, go_sem, mk_b, *] at hm), ?_⟩
    have f5 := hS.fresh m5
    have f0 := hS.fresh m0
    have f2 := hS.fresh m2
    have f3 := hS.fresh m3
    clear hK K'
    replace hS := hS.alloc (.chan 0 #[] false 0 0 false)
    generalize W1.heap.size = cb at *
    exact of_d0123 h hS (.tail _ m5) (.tail _ m0) (.head _) (.tail _ m2) (.tail _ m3) e_b5_cn f5 e_b5_b7 e_b5_b8 f0 e_cn_b7 e_cn_b8 f2.symm f3.symm e_b7_b8 hl
  · replace hl : Lin .any ofOps1 2 #[true, false, true, true, true, false] l := hl
    refine walks_goes rfl (fun W1 hr => ?_)
    replace hS := hS.rely hr
    clear hr
    obtain ⟨k0, g0⟩ := hS.cell m2
    refine goes_oper_k rfl rfl (by k_ne) (fun K' hK => ?_)
    simp only [ofOps1, Tryd.f13]
    go_simp
    refine hK _ _ ⟨_, guar_set ((hS.own _).2 (.inr ⟨_, m2⟩)) (fun e he => ?_), ?_⟩
    · have hm := mem_listed he
      simp [ofOps1, Tryd.f13, go_sem, *] at hm
      subst hm
      exact ⟨_, _, rfl, (hS.own _).2 (.inr ⟨_, m2⟩)⟩
    clear hK K' k0 g0
    replace hS := hS.set m2 0 (.chan (some cn))
    exact of_d0234 h hS (List.mem_map.2 ⟨_, m5, if_neg e_b5_b7⟩) (List.mem_map.2 ⟨_, m0, if_neg e_cn_b7⟩) (List.mem_map.2 ⟨_, m2, if_pos rfl⟩) (List.mem_map.2 ⟨_, m3, if_neg e_b7_b8.symm⟩) e_b5_cn e_b5_b7 e_b5_b8 e_cn_b7 e_cn_b8 e_b7_b8 hl
set_option maxRecDepth 100000 in
set_option maxHeartbeats 1000000 in
theorem of_d02 {b5 cn b7 : Nat} (h : OfD Sh O Stop cs M wk ff cap W0 b5)
    {L : List (Nat × Obj)} {O' : Nat → Prop} {W : World} (hS : Stock O Sh W0 L O' W) (m5 : (b5, .cells #[(.func (.func ff) #[] cap)] 47 (0, 0)) ∈ L) (m0 : (cn, (.chan 0 #[] false 0 0 false)) ∈ L) (m2 : (b7, (.cells #[.chan none] 67 (0, 0))) ∈ L) (e_b5_cn : b5 ≠ cn) (e_b5_b7 : b5 ≠ b7) (e_cn_b7 : cn ≠ b7) {l : List Nat} (hl : Lin .any ofOps1 4 #[true, false, true, false, false, false] l) : Walks Tryd.prog true Sh Stop O' (G ((base 13).at ⟨#[.int .i64 M, .int .i64 wk, (.func (.func ff) #[] cap), undef, undef, .pointer (some ⟨b5, 0, none⟩), .slice none 0 0, .pointer (some ⟨b7, 0, none⟩), undef, undef, undef, .chan (some cn), undef, undef, undef, undef, undef, undef, undef, undef, undef, undef, undef, undef, undef, undef, undef, undef], []⟩ [.inRegion ofOps1 l, .code ofC2]) cs) W := by
  have hr : Region.ready .any ofOps1 #[true, false, true, false, false, false] = [1, 3] := by kernel_rfl
  rcases hl with ⟨h0, _⟩ | ⟨i, hi, l, rfl, hl⟩
  · rw [hr] at h0; cases h0
  rw [hr] at hi
  simp only [List.mem_cons, List.not_mem_nil, or_false] at hi
  rcases hi with rfl | rfl
  · replace hl : Lin .any ofOps1 3 #[true, true, true, false, false, false] l := hl
    refine walks_goes rfl (fun W1 hr => ?_)
    replace hS := hS.rely hr
    clear hr
    refine goes_oper_k rfl rfl (by k_ne) (fun K' hK => ?_)
    simp only [ofOps1, Tryd.f13]
    go_simp
    refine hK _ _ ⟨_, guar_alloc (fun e he => by have hm := mem_listed he; simp [ofOps1, Tryd.f13, go_sem, mk_b, *] at hm), ?_⟩
    have f5 := hS.fresh m5
    have f0 := hS.fresh m0
    have f2 := hS.fresh m2
    clear hK K'
    replace hS := hS.alloc (.chan 0 #[] false 0 0 false)
    generalize W1.heap.size = cb at *
    exact of_d012 h hS (.tail _ m5) (.tail _ m0) (.head _) (.tail _ m2) e_b5_cn f5 e_b5_b7 f0 e_cn_b7 f2.symm hl
  · replace hl : Lin .any ofOps1 3 #[true, false, true, true, false, false] l := hl
    refine walks_goes rfl (fun W1 hr => ?_)
    replace hS := hS.rely hr
    clear hr
    refine goes_oper_k rfl rfl (by k_ne) (fun K' hK => ?_)
    simp only [ofOps1, Tryd.f13]
    go_simp
    refine hK _ _ ⟨_, guar_alloc (fun e he => by have hm := mem_listed he; simp [ofOps1, Tryd.f13, go_sem, *] at hm), ?_⟩
    have f5 := hS.fresh m5
    have f0 := hS.fresh m0
    have f2 := hS.fresh m2
    clear hK K'
    replace hS := hS.alloc (.cells #[.chan none] 68 (0, 0))
    generalize W1.heap.size = b8 at *
    exact of_d023 h hS (.tail _ m5) (.tail _ m0) (.tail _ m2) (.head _) e_b5_cn e_b5_b7 f5 e_cn_b7 f0 f2 hl
set_option maxRecDepth 100000 in
set_option maxHeartbeats 1000000 in
theorem of_d03 {b5 cn b8 : Nat} (h : OfD Sh O Stop cs M wk ff cap W0 b5)
    {L : List (Nat × Obj)} {O' : Nat → Prop} {W : World} (hS : Stock O Sh W0 L O' W) (m5 : (b5, .cells #[(.func (.func ff) #[] cap)] 47 (0, 0)) ∈ L) (m0 : (cn, (.chan 0 #[] false 0 0 false)) ∈ L) (m3 : (b8, (.cells #[.chan none] 68 (0, 0))) ∈ L) (e_b5_cn : b5 ≠ cn) (e_b5_b8 : b5 ≠ b8) (e_cn_b8 : cn ≠ b8) {l : List Nat} (hl : Lin .any ofOps1 4 #[true, false, false, true, false, false] l) : Walks Tryd.prog true Sh Stop O' (G ((base 13).at ⟨#[.int .i64 M, .int .i64 wk, (.func (.func ff) #[] cap), undef, undef, .pointer (some ⟨b5, 0, none⟩), .slice none 0 0, undef, .pointer (some ⟨b8, 0, none⟩), undef, undef, .chan (some cn), undef, undef, undef, undef, undef, undef, undef, undef, undef, undef, undef, undef, undef, undef, undef, undef], []⟩ [.inRegion ofOps1 l, .code ofC2]) cs) W := by
  have hr : Region.ready .any ofOps1 #[true, false, false, true, false, false] = [1, 2] := by kernel_rfl
  rcases hl with ⟨h0, _⟩ | ⟨i, hi, l, rfl, hl⟩
  · rw [hr] at h0; cases h0
  rw [hr] at hi
  simp only [List.mem_cons, List.not_mem_nil, or_false] at hi
  rcases hi with rfl | rfl
  · replace hl : Lin .any ofOps1 3 #[true, true, false, true, false, false] l := hl
    refine walks_goes rfl (fun W1 hr => ?_)
    replace hS := hS.rely hr
    clear hr
    refine goes_oper_k rfl rfl (by k_ne) (fun K' hK => ?_)
    simp only [ofOps1, Tryd.f13]
    go_simp
    refine hK _ _ ⟨_, guar_alloc (fun e he => by have hm := mem_listed he; simp [ofOps1, Tryd.f13, go_sem, mk_b, *] at hm), ?_⟩
    have f5 := hS.fresh m5
    have f0 := hS.fresh m0
    have f3 := hS.fresh m3
    clear hK K'
    replace hS := hS.alloc (.chan 0 #[] false 0 0 false)
    generalize W1.heap.size = cb at *
    exact of_d013 h hS (.tail _ m5) (.tail _ m0) (.head _) (.tail _ m3) e_b5_cn f5 e_b5_b8 f0 e_cn_b8 f3.symm hl
  · replace hl : Lin .any ofOps1 3 #[true, false, true, true, false, false] l := hl
    refine walks_goes rfl (fun W1 hr => ?_)
    replace hS := hS.rely hr
    clear hr
    refine goes_oper_k rfl rfl (by k_ne) (fun K' hK => ?_)
    simp only [ofOps1, Tryd.f13]
    go_simp
    refine hK _ _ ⟨_, guar_alloc (fun e he => by have hm := mem_listed he; simp [ofOps1, Tryd.f13, go_sem, *] at hm), ?_⟩
    have f5 := hS.fresh m5
    have f0 := hS.fresh m0
    have f3 := hS.fresh m3
    clear hK K'
    replace hS := hS.alloc (.cells #[.chan none] 67 (0, 0))
    generalize W1.heap.size = b7 at *
    exact of_d023 h hS (.tail _ m5) (.tail _ m0) (.head _) (.tail _ m3) e_b5_cn f5 e_b5_b8 f0 e_cn_b8 f3.symm hl
set_option maxRecDepth 100000 in
set_option maxHeartbeats 1000000 in
theorem of_d0 {b5 cn : Nat} (h : OfD Sh O Stop cs M wk ff cap W0 b5)
    {L : List (Nat × Obj)} {O' : Nat → Prop} {W : World} (hS : Stock O Sh W0 L O' W) (m5 : (b5, .cells #[(.func (.func ff) #[] cap)] 47 (0, 0)) ∈ L) (m0 : (cn, (.chan 0 #[] false 0 0 false)) ∈ L) (e_b5_cn : b5 ≠ cn) {l : List Nat} (hl : Lin .any ofOps1 5 #[true, false, false, false, false, false] l) : Walks Tryd.prog true Sh Stop O' (G ((base 13).at ⟨#[.int .i64 M, .int .i64 wk, (.func (.func ff) #[] cap), undef, undef, .pointer (some ⟨b5, 0, none⟩), .slice none 0 0, undef, undef, undef, undef, .chan (some cn), undef, undef, undef, undef, undef, undef, undef, undef, undef, undef, undef, undef, undef, undef, undef, undef], []⟩ [.inRegion ofOps1 l, .code ofC2]) cs) W := by
  have hr : Region.ready .any ofOps1 #[true, false, false, false, false, false] = [1, 2, 3] := by kernel_rfl
  rcases hl with ⟨h0, _⟩ | ⟨i, hi, l, rfl, hl⟩
  · rw [hr] at h0; cases h0
  rw [hr] at hi
  simp only [List.mem_cons, List.not_mem_nil, or_false] at hi
  rcases hi with rfl | rfl | rfl
  · replace hl : Lin .any ofOps1 4 #[true, true, false, false, false, false] l := hl
    refine walks_goes rfl (fun W1 hr => ?_)
    replace hS := hS.rely hr
    clear hr
    refine goes_oper_k rfl rfl (by k_ne) (fun K' hK => ?_)
    simp only [ofOps1, Tryd.f13]
    go_simp
    refine hK _ _ ⟨_, guar_alloc (fun e he => by have hm := mem_listed he; simp [ofOps1, Tryd.f13, go_sem, mk_b, *] at hm), ?_⟩
    have f5 := hS.fresh m5
    have f0 := hS.fresh m0
    clear hK K'
    replace hS := hS.alloc (.chan 0 #[] false 0 0 false)
    generalize W1.heap.size = cb at *
    exact of_d01 h hS (.tail _ m5) (.tail _ m0) (.head _) e_b5_cn f5 f0 hl
  · replace hl : Lin .any ofOps1 4 #[true, false, true, false, false, false] l := hl
    refine walks_goes rfl (fun W1 hr => ?_)
    replace hS := hS.rely hr
    clear hr
    refine goes_oper_k rfl rfl (by k_ne) (fun K' hK => ?_)
    simp only [ofOps1, Tryd.f13]
    go_simp
    refine hK _ _ ⟨_, guar_alloc (fun e he => by have hm := mem_listed he; simp [ofOps1, Tryd.f13, go_sem, *] at hm), ?_⟩
    have f5 := hS.fresh m5
    have f0 := hS.fresh m0
    clear hK K'
    replace hS := hS.alloc (.cells #[.chan none] 67 (0, 0))
    generalize W1.heap.size = b7 at *
    exact of_d02 h hS (.tail _ m5) (.tail _ m0) (.head _) e_b5_cn f5 f0 hl
  · replace hl : Lin .any ofOps1 4 #[true, false, false, true, false, false] l := hl
    refine walks_goes rfl (fun W1 hr => ?_)
    replace hS := hS.rely hr
    clear hr
    refine goes_oper_k rfl rfl (by k_ne) (fun K' hK => ?_)
    simp only [ofOps1, Tryd.f13]
    go_simp
    refine hK _ _ ⟨_, guar_alloc (fun e he => by have hm := mem_listed he; simp [ofOps1, Tryd.f13, go_sem, *] at hm), ?_⟩
    have f5 := hS.fresh m5
    have f0 := hS.fresh m0
    clear hK K'
    replace hS := hS.alloc (.cells #[.chan none] 68 (0, 0))
    generalize W1.heap.size = b8 at *
    exact of_d03 h hS (.tail _ m5) (.tail _ m0) (.head _) e_b5_cn f5 f0 hl
set_option maxRecDepth 100000 in
set_option maxHeartbeats 1000000 in
theorem of_d123 {b5 cb b7 b8 : Nat} (h : OfD Sh O Stop cs M wk ff cap W0 b5)
    {L : List (Nat × Obj)} {O' : Nat → Prop} {W : World} (hS : Stock O Sh W0 L O' W) (m5 : (b5, .cells #[(.func (.func ff) #[] cap)] 47 (0, 0)) ∈ L) (m1 : (cb, (.chan 0 #[] false 0 0 false)) ∈ L) (m2 : (b7, (.cells #[.chan none] 67 (0, 0))) ∈ L) (m3 : (b8, (.cells #[.chan none] 68 (0, 0))) ∈ L) (e_b5_cb : b5 ≠ cb) (e_b5_b7 : b5 ≠ b7) (e_b5_b8 : b5 ≠ b8) (e_cb_b7 : cb ≠ b7) (e_cb_b8 : cb ≠ b8) (e_b7_b8 : b7 ≠ b8) {l : List Nat} (hl : Lin .any ofOps1 3 #[false, true, true, true, false, false] l) : Walks Tryd.prog true Sh Stop O' (G ((base 13).at ⟨#[.int .i64 M, .int .i64 wk, (.func (.func ff) #[] cap), undef, undef, .pointer (some ⟨b5, 0, none⟩), .slice none 0 0, .pointer (some ⟨b7, 0, none⟩), .pointer (some ⟨b8, 0, none⟩), undef, undef, undef, .chan (some cb), undef, undef, undef, undef, undef, undef, undef, undef, undef, undef, undef, undef, undef, undef, undef], []⟩ [.inRegion ofOps1 l, .code ofC2]) cs) W := by
  have hr : Region.ready .any ofOps1 #[false, true, true, true, false, false] = [0] := by kernel_rfl
  rcases hl with ⟨h0, _⟩ | ⟨i, hi, l, rfl, hl⟩
  · rw [hr] at h0; cases h0
  rw [hr] at hi
  simp only [List.mem_cons, List.not_mem_nil, or_false] at hi
  subst hi
  · replace hl : Lin .any ofOps1 2 #[true, true, true, true, false, false] l := hl
    refine walks_goes rfl (fun W1 hr => ?_)
    replace hS := hS.rely hr
    clear hr
    refine goes_oper_k rfl rfl (by k_ne) (fun K' hK => ?_)
    simp only [ofOps1, Tryd.f13]
    go_simp
    refine hK _ _ ⟨_, guar_alloc (fun e he => by have hm := mem_listed he; simp [ofOps1, Tryd.f13, go_sem, mk_n, *] at hm), ?_⟩
    have f5 := hS.fresh m5
    have f1 := hS.fresh m1
    have f2 := hS.fresh m2
    have f3 := hS.fresh m3
    clear hK K'
    replace hS := hS.alloc (.chan 0 #[] false 0 0 false)
    generalize W1.heap.size = cn at *
    exact of_d0123 h hS (.tail _ m5) (.head _) (.tail _ m1) (.tail _ m2) (.tail _ m3) f5 e_b5_cb e_b5_b7 e_b5_b8 f1.symm f2.symm f3.symm e_cb_b7 e_cb_b8 e_b7_b8 hl
set_option maxRecDepth 100000 in
set_option maxHeartbeats 1000000 in
theorem of_d12 {b5 cb b7 : Nat} (h : OfD Sh O Stop cs M wk ff cap W0 b5)
    {L : List (Nat × Obj)} {O' : Nat → Prop} {W : World} (hS : Stock O Sh W0 L O' W) (m5 : (b5, .cells #[(.func (.func ff) #[] cap)] 47 (0, 0)) ∈ L) (m1 : (cb, (.chan 0 #[] false 0 0 false)) ∈ L) (m2 : (b7, (.cells #[.chan none] 67 (0, 0))) ∈ L) (e_b5_cb : b5 ≠ cb) (e_b5_b7 : b5 ≠ b7) (e_cb_b7 : cb ≠ b7) {l : List Nat} (hl : Lin .any ofOps1 4 #[false, true, true, false, false, false] l) : Walks Tryd.prog true Sh Stop O' (G ((base 13).at ⟨#[.int .i64 M, .int .i64 wk, (.func (.func ff) #[] cap), undef, undef, .pointer (some ⟨b5, 0, none⟩), .slice none 0 0, .pointer (some ⟨b7, 0, none⟩), undef, undef, undef, undef, .chan (some cb), undef, undef, undef, undef, undef, undef, undef, undef, undef, undef, undef, undef, undef, undef, undef], []⟩ [.inRegion ofOps1 l, .code ofC2]) cs) W := by
  have hr : Region.ready .any ofOps1 #[false, true, true, false, false, false] = [0, 3] := by kernel_rfl
  rcases hl with ⟨h0, _⟩ | ⟨i, hi, l, rfl, hl⟩
  · rw [hr] at h0; cases h0
  rw [hr] at hi
  simp only [List.mem_cons, List.not_mem_nil, or_false] at hi
  rcases hi with rfl | rfl
  · replace hl : Lin .any ofOps1 3 #[true, true, true, false, false, false] l := hl
    refine walks_goes rfl (fun W1 hr => ?_)
    replace hS := hS.rely hr
    clear hr
    refine goes_oper_k rfl rfl (by k_ne) (fun K' hK => ?_)
    simp only [ofOps1, Tryd.f13]
    go_simp
    refine hK _ _ ⟨_, guar_alloc (fun e he => by have hm := mem_listed he; simp [ofOps1, Tryd.f13, go_sem, mk_n, *] at hm), ?_⟩
    have f5 := hS.fresh m5
    have f1 := hS.fresh m1
    have f2 := hS.fresh m2
    clear hK K'
    replace hS := hS.alloc (.chan 0 #[] false 0 0 false)
    generalize W1.heap.size = cn at *
    exact of_d012 h hS (.tail _ m5) (.head _) (.tail _ m1) (.tail _ m2) f5 e_b5_cb e_b5_b7 f1.symm f2.symm e_cb_b7 hl
  · replace hl : Lin .any ofOps1 3 #[false, true, true, true, false, false] l := hl
    refine walks_goes rfl (fun W1 hr => ?_)
    replace hS := hS.rely hr
    clear hr
    refine goes_oper_k rfl rfl (by k_ne) (fun K' hK => ?_)
    simp only [ofOps1, Tryd.f13]
    go_simp
    refine hK _ _ ⟨_, guar_alloc (fun e he => by have hm := mem_listed he; simp [ofOps1, Tryd.f13, go_sem, *] at hm), ?_⟩
    have f5 := hS.fresh m5
    have f1 := hS.fresh m1
    have f2 := hS.fresh m2
    clear hK K'
    replace hS := hS.alloc (.cells #[.chan none] 68 (0, 0))
    generalize W1.heap.size = b8 at *
    exact of_d123 h hS (.tail _ m5) (.tail _ m1) (.tail _ m2) (.head _) e_b5_cb e_b5_b7 f5 e_cb_b7 f1 f2 hl
set_option maxRecDepth 100000 in
set_option maxHeartbeats 1000000 in
theorem of_d13 {b5 cb b8 : Nat} (h : OfD Sh O Stop cs M wk ff cap W0 b5)
    {L : List (Nat × Obj)} {O' : Nat → Prop} {W : World} (hS : Stock O Sh W0 L O' W) (m5 : (b5, .cells #[(.func (.func ff) #[] cap)] 47 (0, 0)) ∈ L) (m1 : (cb, (.chan 0 #[] false 0 0 false)) ∈ L) (m3 : (b8, (.cells #[.chan none] 68 (0, 0))) ∈ L) (e_b5_cb : b5 ≠ cb) (e_b5_b8 : b5 ≠ b8) (e_cb_b8 : cb ≠ b8) {l : List Nat} (hl : Lin .any ofOps1 4 #[false, true, false, true, false, false] l) : Walks Tryd.prog true Sh Stop O' (G ((base 13).at ⟨#[.int .i64 M, .int .i64 wk, (.func (.func ff) #[] cap), undef, undef, .pointer (some ⟨b5, 0, none⟩), .slice none 0 0, undef, .pointer (some ⟨b8, 0, none⟩), undef, undef, undef, .chan (some cb), undef, undef, undef, undef, undef, undef, undef, undef, undef, undef, undef, undef, undef, undef, undef], []⟩ [.inRegion ofOps1 l, .code ofC2]) cs) W := by
  have hr : Region.ready .any ofOps1 #[false, true, false, true, false, false] = [0, 2] := by kernel_rfl
  rcases hl with ⟨h0, _⟩ | ⟨i, hi, l, rfl, hl⟩
  · rw [hr] at h0; cases h0
  rw [hr] at hi
  simp only [List.mem_cons, List.not_mem_nil, or_false] at hi
  rcases hi with rfl | rfl
  · replace hl : Lin .any ofOps1 3 #[true, true, false, true, false, false] l := hl
    refine walks_goes rfl (fun W1 hr => ?_)
    replace hS := hS.rely hr
    clear hr
    refine goes_oper_k rfl rfl (by k_ne) (fun K' hK => ?_)
    simp only [ofOps1, Tryd.f13]
    go_simp
    refine hK _ _ ⟨_, guar_alloc (fun e he => by have hm := mem_listed he; simp [ofOps1, Tryd.f13, go_sem, mk_n, *] at hm), ?_⟩
    have f5 := hS.fresh m5
    have f1 := hS.fresh m1
    have f3 := hS.fresh m3
    clear hK K'
    replace hS := hS.alloc (.chan 0 #[] false 0 0 false)
    generalize W1.heap.size = cn at *
    exact of_d013 h hS (.tail _ m5) (.head _) (.tail _ m1) (.tail _ m3) f5 e_b5_cb e_b5_b8 f1.symm f3.symm e_cb_b8 hl
  · replace hl : Lin .any ofOps1 3 #[false, true, true, true, false, false] l := hl
    refine walks_goes rfl (fun W1 hr => ?_)
    replace hS := hS.rely hr
    clear hr
    refine goes_oper_k rfl rfl (by k_ne) (fun K' hK => ?_)
    simp only [ofOps1, Tryd.f13]
    go_simp
    refine hK _ _ ⟨_, guar_alloc (fun e he => by have hm := mem_listed he; simp [ofOps1, Tryd.f13, go_sem, *] at hm), ?_⟩
    have f5 := hS.fresh m5
    have f1 := hS.fresh m1
    have f3 := hS.fresh m3
    clear hK K'
    replace hS := hS.alloc (.cells #[.chan none] 67 (0, 0))
    generalize W1.heap.size = b7 at *
    exact of_d123 h hS (.tail _ m5) (.tail _ m1) (.head _) (.tail _ m3) e_b5_cb f5 e_b5_b8 f1 e_cb_b8 f3.symm hl
set_option maxRecDepth 100000 in
set_option maxHeartbeats 1000000 in
theorem of_d1 {b5 cb : Nat} (h : OfD Sh O Stop cs M wk ff cap W0 b5)
    {L : List (Nat × Obj)} {O' : Nat → Prop} {W : World} (hS : Stock O Sh W0 L O' W) (m5 : (b5, .cells #[(.func (.func ff) #[] cap)] 47 (0, 0)) ∈ L) (m1 : (cb, (.chan 0 #[] false 0 0 false)) ∈ L) (e_b5_cb : b5 ≠ cb) {l : List Nat} (hl : Lin .any ofOps1 5 #[false, true, false, false, false, false] l) : Walks Tryd.prog true Sh Stop O' (G ((base 13).at ⟨#[.int .i64 M, .int .i64 wk, (.func (.func ff) #[] cap), undef, undef, .pointer (some ⟨b5, 0, none⟩), .slice none 0 0, undef, undef, undef, undef, undef, .chan (some cb), undef, undef, undef, undef, undef, undef, undef, undef, undef, undef, undef, undef, undef, undef, undef], []⟩ [.inRegion ofOps1 l, .code ofC2]) cs) W := by
  have hr : Region.ready .any ofOps1 #[false, true, false, false, false, false] = [0, 2, 3] := by kernel_rfl
  rcases hl with ⟨h0, _⟩ | ⟨i, hi, l, rfl, hl⟩
  · rw [hr] at h0; cases h0
  rw [hr] at hi
  simp only [List.mem_cons, List.not_mem_nil, or_false] at hi
  rcases hi with rfl | rfl | rfl
  · replace hl : Lin .any ofOps1 4 #[true, true, false, false, false, false] l := hl
    refine walks_goes rfl (fun W1 hr => ?_)
    replace hS := hS.rely hr
    clear hr
    refine goes_oper_k rfl rfl (by k_ne) (fun K' hK => ?_)
    simp only [ofOps1, Tryd.f13]
    go_simp
    refine hK _ _ ⟨_, guar_alloc (fun e he => by have hm := mem_listed he; simp [ofOps1, Tryd.f13, go_sem, mk_n, *] at hm), ?_⟩
    have f5 := hS.fresh m5
    have f1 := hS.fresh m1
    clear hK K'
    replace hS := hS.alloc (.chan 0 #[] false 0 0 false)
    generalize W1.heap.size = cn at *
    exact of_d01 h hS (.tail _ m5) (.head _) (.tail _ m1) f5 e_b5_cb f1.symm hl
  · replace hl : Lin .any ofOps1 4 #[false, true, true, false, false, false] l := hl
    refine walks_goes rfl (fun W1 hr => ?_)
    replace hS := hS.rely hr
    clear hr
    refine goes_oper_k rfl rfl (by k_ne) (fun K' hK => ?_)
    simp only [ofOps1, Tryd.f13]
    go_simp
    refine hK _ _ ⟨_, guar_alloc (fun e he => by have hm := mem_listed he; simp [ofOps1, Tryd.f13, go_sem, *] at hm), ?_⟩
    have f5 := hS.fresh m5
    have f1 := hS.fresh m1
    clear hK K'
    replace hS := hS.alloc (.cells #[.chan none] 67 (0, 0))
    generalize W1.heap.size = b7 at *
    exact of_d12 h hS (.tail _ m5) (.tail _ m1) (.head _) e_b5_cb f5 f1 hl
  · replace hl : Lin .any ofOps1 4 #[false, true, false, true, false, false] l := hl
    refine walks_goes rfl (fun W1 hr => ?_)
    replace hS := hS.rely hr
    clear hr
    refine goes_oper_k rfl rfl (by k_ne) (fun K' hK => ?_)
    simp only [ofOps1, Tryd.f13]
    go_simp
    refine hK _ _ ⟨_, guar_alloc (fun e he => by have hm := mem_listed he; simp [ofOps1, Tryd.f13, go_sem, *] at hm), ?_⟩
    have f5 := hS.fresh m5
    have f1 := hS.fresh m1
    clear hK K'
    replace hS := hS.alloc (.cells #[.chan none] 68 (0, 0))
    generalize W1.heap.size = b8 at *
    exact of_d13 h hS (.tail _ m5) (.tail _ m1) (.head _) e_b5_cb f5 f1 hl
set_option maxRecDepth 100000 in
set_option maxHeartbeats 1000000 in
theorem of_d23 {b5 b7 b8 : Nat} (h : OfD Sh O Stop cs M wk ff cap W0 b5)
    {L : List (Nat × Obj)} {O' : Nat → Prop} {W : World} (hS : Stock O Sh W0 L O' W) (m5 : (b5, .cells #[(.func (.func ff) #[] cap)] 47 (0, 0)) ∈ L) (m2 : (b7, (.cells #[.chan none] 67 (0, 0))) ∈ L) (m3 : (b8, (.cells #[.chan none] 68 (0, 0))) ∈ L) (e_b5_b7 : b5 ≠ b7) (e_b5_b8 : b5 ≠ b8) (e_b7_b8 : b7 ≠ b8) {l : List Nat} (hl : Lin .any ofOps1 4 #[false, false, true, true, false, false] l) : Walks Tryd.prog true Sh Stop O' (G ((base 13).at ⟨#[.int .i64 M, .int .i64 wk, (.func (.func ff) #[] cap), undef, undef, .pointer (some ⟨b5, 0, none⟩), .slice none 0 0, .pointer (some ⟨b7, 0, none⟩), .pointer (some ⟨b8, 0, none⟩), undef, undef, undef, undef, undef, undef, undef, undef, undef, undef, undef, undef, undef, undef, undef, undef, undef, undef, undef], []⟩ [.inRegion ofOps1 l, .code ofC2]) cs) W := by
  have hr : Region.ready .any ofOps1 #[false, false, true, true, false, false] = [0, 1] := by kernel_rfl
  rcases hl with ⟨h0, _⟩ | ⟨i, hi, l, rfl, hl⟩
  · rw [hr] at h0; cases h0
  rw [hr] at hi
  simp only [List.mem_cons, List.not_mem_nil, or_false] at hi
  rcases hi with rfl | rfl
  · replace hl : Lin .any ofOps1 3 #[true, false, true, true, false, false] l := hl
    refine walks_goes rfl (fun W1 hr => ?_)
    replace hS := hS.rely hr
    clear hr
    refine goes_oper_k rfl rfl (by k_ne) (fun K' hK => ?_)
    simp only [ofOps1, Tryd.f13]
    go_simp
    refine hK _ _ ⟨_, guar_alloc (fun e he => by have hm := mem_listed he; simp [ofOps1, Tryd.f13, go_sem, mk_n, *] at hm), ?_⟩
    have f5 := hS.fresh m5
    have f2 := hS.fresh m2
    have f3 := hS.fresh m3
    clear hK K'
    replace hS := hS.alloc (.chan 0 #[] false 0 0 false)
    generalize W1.heap.size = cn at *
    exact of_d023 h hS (.tail _ m5) (.head _) (.tail _ m2) (.tail _ m3) f5 e_b5_b7 e_b5_b8 f2.symm f3.symm e_b7_b8 hl
  · replace hl : Lin .any ofOps1 3 #[false, true, true, true, false, false] l := hl
    refine walks_goes rfl (fun W1 hr => ?_)
    replace hS := hS.rely hr
    clear hr
    refine goes_oper_k rfl rfl (by k_ne) (fun K' hK => ?_)
    simp only [ofOps1, Tryd.f13]
    go_simp
    refine hK _ _ ⟨_, guar_alloc (fun e he => by have hm := mem_listed he; simp [ofOps1, Tryd.f13, go_sem, mk_b, *] at hm), ?_⟩
    have f5 := hS.fresh m5
    have f2 := hS.fresh m2
    have f3 := hS.fresh m3
    clear hK K'
    replace hS := hS.alloc (.chan 0 #[] false 0 0 false)
    generalize W1.heap.size = cb at *
    exact of_d123 h hS (.tail _ m5) (.head _) (.tail _ m2) (.tail _ m3) f5 e_b5_b7 e_b5_b8 f2.symm f3.symm e_b7_b8 hl
set_option maxRecDepth 100000 in
set_option maxHeartbeats 1000000 in
theorem of_d2 {b5 b7 : Nat} (h : OfD Sh O Stop cs M wk ff cap W0 b5)
    {L : List (Nat × Obj)} {O' : Nat → Prop} {W : World} (hS : Stock O Sh W0 L O' W) (m5 : (b5, .cells #[(.func (.func ff) #[] cap)] 47 (0, 0)) ∈ L) (m2 : (b7, (.cells #[.chan none] 67 (0, 0))) ∈ L) (e_b5_b7 : b5 ≠ b7) {l : List Nat} (hl : Lin .any ofOps1 5 #[false, false, true, false, false, false] l) : Walks Tryd.prog true Sh Stop O' (G ((base 13).at ⟨#[.int .i64 M, .int .i64 wk, (.func (.func ff) #[] cap), undef, undef, .pointer (some ⟨b5, 0, none⟩), .slice none 0 0, .pointer (some ⟨b7, 0, none⟩), undef, undef, undef, undef, undef, undef, undef, undef, undef, undef, undef, undef, undef, undef, undef, undef, undef, undef, undef, undef], []⟩ [.inRegion ofOps1 l, .code ofC2]) cs) W := by
  have hr : Region.ready .any ofOps1 #[false, false, true, false, false, false] = [0, 1, 3] := by kernel_rfl
  rcases hl with ⟨h0, _⟩ | ⟨i, hi, l, rfl, hl⟩
  · rw [hr] at h0; cases h0
  rw [hr] at hi
  simp only [List.mem_cons, List.not_mem_nil, or_false] at hi
  rcases hi with rfl | rfl | rfl
  · replace hl : Lin .any ofOps1 4 #[true, false, true, false, false, false] l := hl
    refine walks_goes rfl (fun W1 hr => ?_)
    replace hS := hS.rely hr
    clear hr
    refine goes_oper_k rfl rfl (by k_ne) (fun K' hK => ?_)
    simp only [ofOps1, Tryd.f13]
    go_simp
    refine hK _ _ ⟨_, guar_alloc (fun e he => by have hm := mem_listed he; simp [ofOps1, Tryd.f13, go_sem, mk_n, *] at hm), ?_⟩
    have f5 := hS.fresh m5
    have f2 := hS.fresh m2
    clear hK K'
    replace hS := hS.alloc (.chan 0 #[] false 0 0 false)
    generalize W1.heap.size = cn at *
    exact of_d02 h hS (.tail _ m5) (.head _) (.tail _ m2) f5 e_b5_b7 f2.symm hl
  · replace hl : Lin .any ofOps1 4 #[false, true, true, false, false, false] l := hl
    refine walks_goes rfl (fun W1 hr => ?_)
    replace hS := hS.rely hr
    clear hr
    refine goes_oper_k rfl rfl (by k_ne) (fun K' hK => ?_)
    simp only [ofOps1, Tryd.f13]
    go_simp
    refine hK _ _ ⟨_, guar_alloc (fun e he => by have hm := mem_listed he; simp [ofOps1, Tryd.f13, go_sem, mk_b, *] at hm), ?_⟩
    have f5 := hS.fresh m5
    have f2 := hS.fresh m2
    clear hK K'
    replace hS := hS.alloc (.chan 0 #[] false 0 0 false)
    generalize W1.heap.size = cb at *
    exact of_d12 h hS (.tail _ m5) (.head _) (.tail _ m2) f5 e_b5_b7 f2.symm hl
  · replace hl : Lin .any ofOps1 4 #[false, false, true, true, false, false] l := hl
    refine walks_goes rfl (fun W1 hr => ?_)
    replace hS := hS.rely hr
    clear hr
    refine goes_oper_k rfl rfl (by k_ne) (fun K' hK => ?_)
    simp only [ofOps1, Tryd.f13]
    go_simp
    refine hK _ _ ⟨_, guar_alloc (fun e he => by have hm := mem_listed he; simp [ofOps1, Tryd.f13, go_sem, *] at hm), ?_⟩
    have f5 := hS.fresh m5
    have f2 := hS.fresh m2
    clear hK K'
    replace hS := hS.alloc (.cells #[.chan none] 68 (0, 0))
    generalize W1.heap.size = b8 at *
    exact of_d23 h hS (.tail _ m5) (.tail _ m2) (.head _) e_b5_b7 f5 f2 hl
set_option maxRecDepth 100000 in
set_option maxHeartbeats 1000000 in
theorem of_d3 {b5 b8 : Nat} (h : OfD Sh O Stop cs M wk ff cap W0 b5)
    {L : List (Nat × Obj)} {O' : Nat → Prop} {W : World} (hS : Stock O Sh W0 L O' W) (m5 : (b5, .cells #[(.func (.func ff) #[] cap)] 47 (0, 0)) ∈ L) (m3 : (b8, (.cells #[.chan none] 68 (0, 0))) ∈ L) (e_b5_b8 : b5 ≠ b8) {l : List Nat} (hl : Lin .any ofOps1 5 #[false, false, false, true, false, false] l) : Walks Tryd.prog true Sh Stop O' (G ((base 13).at ⟨#[.int .i64 M, .int .i64 wk, (.func (.func ff) #[] cap), undef, undef, .pointer (some ⟨b5, 0, none⟩), .slice none 0 0, undef, .pointer (some ⟨b8, 0, none⟩), undef, undef, undef, undef, undef, undef, undef, undef, undef, undef, undef, undef, undef, undef, undef, undef, undef, undef, undef], []⟩ [.inRegion ofOps1 l, .code ofC2]) cs) W := by
  have hr : Region.ready .any ofOps1 #[false, false, false, true, false, false] = [0, 1, 2] := by kernel_rfl
  rcases hl with ⟨h0, _⟩ | ⟨i, hi, l, rfl, hl⟩
  · rw [hr] at h0; cases h0
  rw [hr] at hi
  simp only [List.mem_cons, List.not_mem_nil, or_false] at hi
  rcases hi with rfl | rfl | rfl
  · replace hl : Lin .any ofOps1 4 #[true, false, false, true, false, false] l := hl
    refine walks_goes rfl (fun W1 hr => ?_)
    replace hS := hS.rely hr
    clear hr
    refine goes_oper_k rfl rfl (by k_ne) (fun K' hK => ?_)
    simp only [ofOps1, Tryd.f13]
    go_simp
    refine hK _ _ ⟨_, guar_alloc (fun e he => by have hm := mem_listed he; simp [ofOps1, Tryd.f13, go_sem, mk_n, *] at hm), ?_⟩
    have f5 := hS.fresh m5
    have f3 := hS.fresh m3
    clear hK K'
    replace hS := hS.alloc (.chan 0 #[] false 0 0 false)
    generalize W1.heap.size = cn at *
    exact of_d03 h hS (.tail _ m5) (.head _) (.tail _ m3) f5 e_b5_b8 f3.symm hl
  · replace hl : Lin .any ofOps1 4 #[false, true, false, true, false, false] l := hl
    refine walks_goes rfl (fun W1 hr => ?_)
    replace hS := hS.rely hr
    clear hr
    refine goes_oper_k rfl rfl (by k_ne) (fun K' hK => ?_)
    simp only [ofOps1, Tryd.f13]
    go_simp
    refine hK _ _ ⟨_, guar_alloc (fun e he => by have hm := mem_listed he; simp [ofOps1, Tryd.f13, go_sem, mk_b, *] at hm), ?_⟩
    have f5 := hS.fresh m5
    have f3 := hS.fresh m3
    clear hK K'
    replace hS := hS.alloc (.chan 0 #[] false 0 0 false)
    generalize W1.heap.size = cb at *
    exact of_d13 h hS (.tail _ m5) (.head _) (.tail _ m3) f5 e_b5_b8 f3.symm hl
  · replace hl : Lin .any ofOps1 4 #[false, false, true, true, false, false] l := hl
    refine walks_goes rfl (fun W1 hr => ?_)
    replace hS := hS.rely hr
    clear hr
    refine goes_oper_k rfl rfl (by k_ne) (fun K' hK => ?_)
    simp only [ofOps1, Tryd.f13]
    go_simp
    refine hK _ _ ⟨_, guar_alloc (fun e he => by have hm := mem_listed he; simp [ofOps1, Tryd.f13, go_sem, *] at hm), ?_⟩
    have f5 := hS.fresh m5
    have f3 := hS.fresh m3
    clear hK K'
    replace hS := hS.alloc (.cells #[.chan none] 67 (0, 0))
    generalize W1.heap.size = b7 at *
    exact of_d23 h hS (.tail _ m5) (.head _) (.tail _ m3) f5 e_b5_b8 f3.symm hl
set_option maxRecDepth 100000 in
set_option maxHeartbeats 1000000 in
theorem of_d {b5 : Nat} (h : OfD Sh O Stop cs M wk ff cap W0 b5)
    {L : List (Nat × Obj)} {O' : Nat → Prop} {W : World} (hS : Stock O Sh W0 L O' W) (m5 : (b5, .cells #[(.func (.func ff) #[] cap)] 47 (0, 0)) ∈ L)  {l : List Nat} (hl : Lin .any ofOps1 6 #[false, false, false, false, false, false] l) : Walks Tryd.prog true Sh Stop O' (G ((base 13).at ⟨#[.int .i64 M, .int .i64 wk, (.func (.func ff) #[] cap), undef, undef, .pointer (some ⟨b5, 0, none⟩), .slice none 0 0, undef, undef, undef, undef, undef, undef, undef, undef, undef, undef, undef, undef, undef, undef, undef, undef, undef, undef, undef, undef, undef], []⟩ [.inRegion ofOps1 l, .code ofC2]) cs) W := by
  have hr : Region.ready .any ofOps1 #[false, false, false, false, false, false] = [0, 1, 2, 3] := by kernel_rfl
  rcases hl with ⟨h0, _⟩ | ⟨i, hi, l, rfl, hl⟩
  · rw [hr] at h0; cases h0
  rw [hr] at hi
  simp only [List.mem_cons, List.not_mem_nil, or_false] at hi
  rcases hi with rfl | rfl | rfl | rfl
  · replace hl : Lin .any ofOps1 5 #[true, false, false, false, false, false] l := hl
    refine walks_goes rfl (fun W1 hr => ?_)
    replace hS := hS.rely hr
    clear hr
    refine goes_oper_k rfl rfl (by k_ne) (fun K' hK => ?_)
    simp only [ofOps1, Tryd.f13]
    go_simp
    refine hK _ _ ⟨_, guar_alloc (fun e he => by have hm := mem_listed he; simp [ofOps1, Tryd.f13, go_sem, mk_n, *] at hm), ?_⟩
    have f5 := hS.fresh m5
    clear hK K'
    replace hS := hS.alloc (.chan 0 #[] false 0 0 false)
    generalize W1.heap.size = cn at *
    exact of_d0 h hS (.tail _ m5) (.head _) f5 hl
  · replace hl : Lin .any ofOps1 5 #[false, true, false, false, false, false] l := hl
    refine walks_goes rfl (fun W1 hr => ?_)
    replace hS := hS.rely hr
    clear hr
    refine goes_oper_k rfl rfl (by k_ne) (fun K' hK => ?_)
    simp only [ofOps1, Tryd.f13]
    go_simp
    refine hK _ _ ⟨_, guar_alloc (fun e he => by have hm := mem_listed he; simp [ofOps1, Tryd.f13, go_sem, mk_b, *] at hm), ?_⟩
    have f5 := hS.fresh m5
    clear hK K'
    replace hS := hS.alloc (.chan 0 #[] false 0 0 false)
    generalize W1.heap.size = cb at *
    exact of_d1 h hS (.tail _ m5) (.head _) f5 hl
  · replace hl : Lin .any ofOps1 5 #[false, false, true, false, false, false] l := hl
    refine walks_goes rfl (fun W1 hr => ?_)
    replace hS := hS.rely hr
    clear hr
    refine goes_oper_k rfl rfl (by k_ne) (fun K' hK => ?_)
    simp only [ofOps1, Tryd.f13]
    go_simp
    refine hK _ _ ⟨_, guar_alloc (fun e he => by have hm := mem_listed he; simp [ofOps1, Tryd.f13, go_sem, *] at hm), ?_⟩
    have f5 := hS.fresh m5
    clear hK K'
    replace hS := hS.alloc (.cells #[.chan none] 67 (0, 0))
    generalize W1.heap.size = b7 at *
    exact of_d2 h hS (.tail _ m5) (.head _) f5 hl
  · replace hl : Lin .any ofOps1 5 #[false, false, false, true, false, false] l := hl
    refine walks_goes rfl (fun W1 hr => ?_)
    replace hS := hS.rely hr
    clear hr
    refine goes_oper_k rfl rfl (by k_ne) (fun K' hK => ?_)
    simp only [ofOps1, Tryd.f13]
    go_simp
    refine hK _ _ ⟨_, guar_alloc (fun e he => by have hm := mem_listed he; simp [ofOps1, Tryd.f13, go_sem, *] at hm), ?_⟩
    have f5 := hS.fresh m5
    clear hK K'
    replace hS := hS.alloc (.cells #[.chan none] 68 (0, 0))
    generalize W1.heap.size = b8 at *
    exact of_d3 h hS (.tail _ m5) (.head _) f5 hl
end of
end Go.Proofs.YtmbfdhekplnoaaaDoor
