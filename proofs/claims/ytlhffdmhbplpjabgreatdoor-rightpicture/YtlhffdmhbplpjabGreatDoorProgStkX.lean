/-
  Worlds that are alike but for blocks of one kind; parts of memory told by tags.
  Parts of memory that are a call's own: one; two that lie apart.
  A baker of the program's as it lies in memory: its pool, and a map of pools of what waits.
  The program's stakes as they lie in memory: three bakers, each with what is its own.
-/
import Derived.Test.YtlhffdmhbplpjabGreatDoorKeptX
import Derived.Laws.AppendOwn
import Derived.Deep.RegionLaw
import Derived.Test.YtlhffdmhbplpjabGreatDoorBoundX
import Derived.Test.YtlhffdmhbplpjabGreatDoorProgActs
import Derived.Test.YtlhffdmhbplpjabGreatDoorStakeMathX
namespace Go.Proofs.YtlhffdmhbplpjabGreatDoor
open Go.RowKit

/-- of what was there only such blocks may have turned -/
structure KeptP (F : Nat → Prop) (w w' : World) : Prop where
  os : w'.os = w.os
  tape : w'.tape = w.tape
  output : w'.output = w.output
  size : w.heap.size ≤ w'.heap.size
  block : ∀ k, k < w.heap.size → ¬ F k → w'.heap[k]? = w.heap[k]?
theorem KeptP.refl (F : Nat → Prop) (w : World) : KeptP F w w := ⟨rfl, rfl, rfl, Nat.le_refl _, fun _ _ _ => rfl⟩
theorem KeptP.mono {F G : Nat → Prop} {a b : World} (h : KeptP F a b) (hs : ∀ k, k < a.heap.size → F k → G k) : KeptP G a b :=
  ⟨h.os, h.tape, h.output, h.size, fun i hi hx => h.block i hi (fun g => hx (hs i hi g))⟩
/-- what a second step turns beside is new -/
theorem KeptP.trans {F G : Nat → Prop} {a b c : World} (h : KeptP F a b) (k : KeptP G b c) (hg : ∀ i, i < a.heap.size → G i → F i) : KeptP F a c :=
  ⟨k.os.trans h.os, k.tape.trans h.tape, k.output.trans h.output, Nat.le_trans h.size k.size, fun i hi hx => (k.block i (Nat.lt_of_lt_of_le hi h.size) (fun g => hx (hg i hi g))).trans (h.block i hi hx)⟩
theorem KeptP.drewN {F : Nat → Prop} {a w : World} (h : KeptP F a w) (n : Nat) : KeptP F a (w.drewN n) := ⟨h.os, h.tape, h.output, h.size, h.block⟩
theorem KeptP.drew {F : Nat → Prop} {a w : World} (h : KeptP F a w) : KeptP F a w.drew := ⟨h.os, h.tape, h.output, h.size, h.block⟩
theorem KeptP.setCell {F : Nat → Prop} {a w : World} (h : KeptP F a w) {p : Addr} (hp : F p.block) (u : Value) : KeptP F a (w.setCell p u) :=
  h.trans (G := F) ⟨rfl, rfl, rfl, by simp [World.setCell], fun k _ hk => Below.heap_setCell _ _ _ _ (fun e => hk (by rw [e]; exact hp))⟩ fun _ _ g => g
theorem KeptP.of_below {F : Nat → Prop} {w w' : World} (h : Below w.heap.size w w') : KeptP F w w' := ⟨h.os, h.tape, h.output, h.size, fun k hk _ => h.block k hk⟩
theorem KeptP.of_kept {F : Nat → Prop} {X : List Nat} {w w' : World} (h : Kept X w w') (hx : ∀ k, k ∈ X → F k) : KeptP F w w' := ⟨h.os, h.tape, h.output, h.size, fun k hk hF => h.block k hk (fun g => hF (hx k g))⟩
theorem KeptP.below {F : Nat → Prop} {B : Nat} {w w' : World} (h : KeptP F w w') (hB : B ≤ w.heap.size) (hX : ∀ k, F k → B ≤ k) : Below B w w' :=
  ⟨h.os, h.tape, h.output, h.size, fun k hk => h.block k (by omega) (fun g => by have := hX k g; omega)⟩
theorem KeptP.cell {F : Nat → Prop} {w w' : World} (h : KeptP F w w') {p : Addr} (hp : p.block < w.heap.size) (hx : ¬ F p.block) : w'.cell? p = w.cell? p := World.cell?_of_block (w := w) (h.block p.block hp hx)
theorem KeptP.frozen {F : Nat → Prop} {w w' : World} (h : KeptP F w w') {p : Addr} (hp : p.block < w.heap.size) (hx : ¬ F p.block) : w'.frozen? p = w.frozen? p := World.frozen?_of_block (w := w) (h.block p.block hp hx)
theorem KeptP.old {F : Nat → Prop} {w w' : World} (h : KeptP F w w') {p : Addr} {v : Value} (hc : w.cell? p = some v) (hx : ¬ F p.block) : w'.cell? p = some v := by rw [h.cell (cell_lt hc) hx]; exact hc
/-- some blocks alone -/
theorem KeptP.kept {F : Nat → Prop} {w w' : World} (h : KeptP F w w') : Below 0 w w' := ⟨h.os, h.tape, h.output, h.size, fun k hk => by omega⟩
/-- what a step did: of what was there only its own has turned, and all that it has now it had, or it is new -/
structure Moved (F F' : Nat → Prop) (w w' : World) : Prop where
  kept : KeptP F w w'
  old : ∀ k, k < w.heap.size → F' k → F k
theorem Moved.refl (F : Nat → Prop) (w : World) : Moved F F w w := ⟨KeptP.refl _ _, fun _ _ h => h⟩
theorem Moved.trans {F F' F'' : Nat → Prop} {a b c : World} (h : Moved F F' a b) (k : Moved F' F'' b c) : Moved F F'' a c :=
  ⟨h.kept.trans k.kept h.old, fun i hi g => h.old i hi (k.old i (Nat.lt_of_lt_of_le hi h.kept.size) g)⟩
theorem Moved.drewN {F F' : Nat → Prop} {a w : World} (h : Moved F F' a w) (n : Nat) : Moved F F' a (w.drewN n) := ⟨h.kept.drewN n, h.old⟩
theorem Moved.drew {F F' : Nat → Prop} {a w : World} (h : Moved F F' a w) : Moved F F' a w.drew := ⟨h.kept.drew, h.old⟩
theorem drewN_twice (w : World) (m n : Nat) : (w.drewN m).drewN n = w.drewN (m + n) := by simp [World.drewN, Nat.add_assoc]
theorem ownsRow_keptP {B : Nat} {w w' : World} {e : TypeId} {size n : Nat} {v : Value} {xs : List Value} {F : Nat → Prop} (h : w.ownsRow B e size v n xs) (hK : KeptP F w w') (hv : ∀ g, v.ownBlock = some g → ¬ F g) : w'.ownsRow B e size v n xs := by
  refine ⟨h.1, ?_⟩
  rcases h.2 with g | ⟨g, cap, cur, rfl, hb, hg, h1, h2, h3, h4⟩
  · exact .inl g
  · refine .inr ⟨g, cap, cur, rfl, hb, ?_, h1, h2, h3, h4⟩
    have hlt : g < w.heap.size := by
      rcases Nat.lt_or_ge g w.heap.size with l | l
      · exact l
      · rw [Array.getElem?_eq_none l] at hg; cases hg
    rw [hK.block g hlt (hv g rfl)]
    exact hg
theorem step_append_by {P : Program} {ops : Array Oper} {o : Oper} {a : Act} {w : World} {K : Act → World → Prop} {Q : Exit → Act → World → Prop} {E : Prop} (hg : o.guard = none) (s x : Operand) (t : TypeId)
    (ho : o.op = .call { callee := .builtin .append, args := #[s, x], argTypes := #[t, t] }) (vs vx : Value) (hs : a.eval s = vs) (hx : a.eval x = vx) (v' : Value) (w' : World)
    (hr : (Builtin.append_ #[t, t] o.type #[vs, vx]).run P w = .ok v' w') (h : K (a.put o.dst v') w') : if Region.wanted o (yielded ops a.tmps) = true then Oper.wp P o a w K Q else E := by
  have hw : Region.wanted o (yielded ops a.tmps) = true := by simp [Region.wanted, hg]
  rw [if_pos hw]
  unfold Oper.wp execOp
  simp only [ho, resolve, invoke, builtin, Sem.run_bind, Sem.run_pure, Result.andThen_ok, List.map_toArray, List.map_cons, List.map_nil, hs, hx, hr]
  exact h
end Go.Proofs.YtlhffdmhbplpjabGreatDoor

namespace Go.Proofs.YtlhffdmhbplpjabGreatDoor
open Go.RowKit

/-- what is its own lies behind B -/
structure Mine (B : Nat) (w0 w : World) (F : Nat → Prop) : Prop where
  f : ∀ k, F k → B ≤ k
  below : Below B w0 w
  size : B ≤ w.heap.size
theorem Mine.next {B : Nat} {w0 w w' : World} {F F' : Nat → Prop} (h : Mine B w0 w F) (hM : Moved F F' w w') : Mine B w0 w' F' := by
  refine ⟨fun k hk => ?_, h.below.trans (hM.kept.below h.size h.f), Nat.le_trans h.size hM.kept.size⟩
  rcases Nat.lt_or_ge k w.heap.size with l | l
  · exact h.f k (hM.old k l hk)
  · exact Nat.le_trans h.size l
theorem Mine.nextB {B : Nat} {w0 w w' : World} {F : Nat → Prop} (h : Mine B w0 w F) (k : Below w.heap.size w w') : Mine B w0 w' F :=
  ⟨h.f, h.below.trans (k.mono h.size), Nat.le_trans h.size k.size⟩
theorem Mine.drewN {B : Nat} {w0 w : World} {F : Nat → Prop} (h : Mine B w0 w F) (n : Nat) : Mine B w0 (w.drewN n) F := h.nextB (below_drewN (Below.refl _ _) n)
theorem Mine.new {w w' : World} {F : Nat → Prop} (hF : ∀ k, F k → w.heap.size ≤ k) (hB : Below w.heap.size w w') : Mine w.heap.size w w' F := ⟨hF, hB, hB.size⟩
/-- what lies apart, and behind B -/
structure Sides (B : Nat) (w0 w : World) (F G : Nat → Prop) : Prop where
  apart : ∀ k, F k → ¬ G k
  f : ∀ k, F k → B ≤ k
  g : ∀ k, G k → B ≤ k
  below : Below B w0 w
  size : B ≤ w.heap.size
theorem Sides.nextB {B : Nat} {w0 w w' : World} {F G : Nat → Prop} (h : Sides B w0 w F G) (k : Below w.heap.size w w') : Sides B w0 w' F G :=
  ⟨h.apart, h.f, h.g, h.below.trans (k.mono h.size), Nat.le_trans h.size k.size⟩
theorem Sides.drewN {B : Nat} {w0 w : World} {F G : Nat → Prop} (h : Sides B w0 w F G) (n : Nat) : Sides B w0 (w.drewN n) F G := h.nextB (below_drewN (Below.refl _ _) n)
/-- a cell of another's -/
theorem Moved.cell {F F' : Nat → Prop} {w w' : World} (h : Moved F F' w w') {p : Addr} {v : Value} (hc : w.cell? p = some v) (hx : ¬ F p.block) : w'.cell? p = some v := h.kept.old hc hx
/-- a step of the first, of the second -/
theorem Sides.one {B : Nat} {w0 w w' : World} {F F' G : Nat → Prop} (h : Sides B w0 w F G) (hlt : ∀ k, G k → k < w.heap.size) (hM : Moved F F' w w') : Sides B w0 w' F' G := by
  refine ⟨fun k hk hg => ?_, fun k hk => ?_, h.g, h.below.trans (hM.kept.below h.size h.f), Nat.le_trans h.size hM.kept.size⟩
  · exact h.apart k (hM.old k (hlt k hg) hk) hg
  · rcases Nat.lt_or_ge k w.heap.size with l | l
    · exact h.f k (hM.old k l hk)
    · exact Nat.le_trans h.size l
theorem Sides.two {B : Nat} {w0 w w' : World} {F G G' : Nat → Prop} (h : Sides B w0 w F G) (hlt : ∀ k, F k → k < w.heap.size) (hM : Moved G G' w w') : Sides B w0 w' F G' := by
  refine ⟨fun k hk hg => ?_, h.f, fun k hk => ?_, h.below.trans (hM.kept.below h.size h.g), Nat.le_trans h.size hM.kept.size⟩
  · exact h.apart k hk (hM.old k (hlt k hk) hg)
  · rcases Nat.lt_or_ge k w.heap.size with l | l
    · exact h.g k (hM.old k l hk)
    · exact Nat.le_trans h.size l
end Go.Proofs.YtlhffdmhbplpjabGreatDoor

namespace Go.Proofs.YtlhffdmhbplpjabGreatDoor
open Go.RowKit Go.Maps

/-- a pool of whose shares none are there is empty -/
theorem St.Ok.empty {x : St} (h : x.Ok) (hA : x.A = 0) : x = e0 := by
  have hs : ∀ o, x.s o = 0 := fun o => by have := h.le_all o; have := h.pos o; omega
  obtain ⟨T, s⟩ := x
  have hT : T = 0 := h.none hA
  subst hT
  exact congrArg (St.mk 0) (funext hs)
theorem PoolAt.keptP {w w' : World} {b m g : Nat} {x : St} {F : Nat → Prop} (h : PoolAt w b m x g) (hK : KeptP F w w') (hb : ¬ F b) (hm : ¬ F m) : PoolAt w' b m x g where
  c0 := hK.old h.c0 hb
  c1 := hK.old h.c1 hb
  c2 := hK.old h.c2 hb
  f0 := by rw [hK.frozen (cell_lt h.c0) hb]; exact h.f0
  f1 := by rw [hK.frozen (cell_lt h.c1) hb]; exact h.f1
  own := by
    obtain ⟨n, D, ⟨es, clock, hes, F, hs, hD⟩, hn, hat⟩ := h.own
    have hlt : m < w.heap.size := (Array.getElem?_eq_some_iff.1 hes).1
    exact ⟨n, D, ⟨es, clock, (hK.block m hlt hm).trans hes, F, hs, hD⟩, hn, hat⟩
  ne := h.ne

/-- whose a block is: another's, the baker's own, its pool's, its map's, a pool's of what waits of a cycle -/
inductive Tg where
  | no
  | base
  | pool
  | wmap
  | wait (c : Int)
/-- a baker, as it lies in memory; which cycles have pools; how often their maps were written -/
structure BkAt (tag : Nat → Tg) (w : World) (bb p pm wm : Nat) (P : St) (g : Nat) (H : Int → Bool) (q qm : Int → Nat) (W : Int → St) (gw : Int → Nat) : Prop where
  c0 : w.cell? ⟨bb, 0, none⟩ = some (.pointer (some ⟨p, 0, none⟩))
  c1 : w.cell? ⟨bb, 1, none⟩ = some (.map (some wm))
  f0 : w.frozen? ⟨bb, 0, none⟩ = false
  tb : tag bb = .base
  tp : tag p = .pool
  tpm : tag pm = .pool
  tm : tag wm = .wmap
  pool : PoolAt w p pm P g
  wait : ∀ c, H c = true → tag (q c) = .wait c ∧ tag (qm c) = .wait c ∧ PoolAt w (q c) (qm c) (W c) (gw c)
  tin : ∀ k, tag k ≠ .no → k < w.heap.size
/-- a baker, and what blocks are its own -/
def Bkr (F : Nat → Prop) (w : World) (bb : Nat) (P : St) (W : Int → St) (g : Nat) : Prop :=
  ∃ tag p pm wm H q qm, (∀ k, F k ↔ tag k ≠ Tg.no) ∧ BkAt tag w bb p pm wm P g H q qm W (fun _ => g) ∧ OwnQ w wm H q g ∧ (∀ c, H c = false → W c = e0) ∧ ∀ c, H c = true → Cy c

section
variable {tag : Nat → Tg} {w w' : World} {bb p pm wm g : Nat} {P : St} {H : Int → Bool} {q qm : Int → Nat} {W : Int → St} {gw : Int → Nat}
theorem BkAt.keptP {F : Nat → Prop} (h : BkAt tag w bb p pm wm P g H q qm W gw) (hK : KeptP F w w') (hF : ∀ k, F k → tag k = .no) : BkAt tag w' bb p pm wm P g H q qm W gw := by
  have no : ∀ k, tag k ≠ .no → ¬ F k := fun k hk g => hk (hF k g)
  have nb := no bb (by rw [h.tb]; intro e; cases e)
  refine ⟨hK.old h.c0 nb, hK.old h.c1 nb, ?_, h.tb, h.tp, h.tpm, h.tm, h.pool.keptP hK (no p (by rw [h.tp]; intro e; cases e)) (no pm (by rw [h.tpm]; intro e; cases e)), fun c hc => ?_, fun k hk => Nat.lt_of_lt_of_le (h.tin k hk) hK.size⟩
  · rw [hK.frozen (p := ⟨bb, 0, none⟩) (cell_lt h.c0) nb]; exact h.f0
  · obtain ⟨t1, t2, hp⟩ := h.wait c hc
    exact ⟨t1, t2, hp.keptP hK (no _ (by rw [t1]; intro e; cases e)) (no _ (by rw [t2]; intro e; cases e))⟩
/-- only blocks that bear such a tag have turned -/
theorem BkAt.keptT {t : Tg} (_h : BkAt tag w bb p pm wm P g H q qm W gw) {X : List Nat} (hK : Kept X w w') (hX : ∀ k, k ∈ X → tag k = t) : KeptP (fun k => tag k = t) w w' := KeptP.of_kept hK hX
theorem BkAt.wm_kept {F : Nat → Prop} (h : BkAt tag w bb p pm wm P g H q qm W gw) (hK : KeptP F w w') (hF : ¬ F wm) : w'.heap[wm]? = w.heap[wm]? := hK.block wm (h.tin wm (by rw [h.tm]; intro e; cases e)) hF
/-- its pool turned -/
theorem BkAt.poolTurned (h : BkAt tag w bb p pm wm P g H q qm W gw) {P' : St} {g' : Nat} (hK : Kept [p, pm] w w') (hP : PoolAt w' p pm P' g') : BkAt tag w' bb p pm wm P' g' H q qm W gw ∧ KeptP (fun k => tag k = .pool) w w' := by
  have hT : KeptP (fun k => tag k = .pool) w w' := KeptP.of_kept hK fun k hk => by
    rcases List.mem_cons.1 hk with e | e
    · rw [e]; exact h.tp
    · rw [List.mem_singleton.1 e]; exact h.tpm
  have nb : ¬ tag bb = .pool := by rw [h.tb]; intro e; cases e
  refine ⟨⟨hT.old h.c0 nb, hT.old h.c1 nb, ?_, h.tb, h.tp, h.tpm, h.tm, hP, fun c hc => ?_, fun k hk => Nat.lt_of_lt_of_le (h.tin k hk) hT.size⟩, hT⟩
  · rw [hT.frozen (p := ⟨bb, 0, none⟩) (cell_lt h.c0) nb]; exact h.f0
  · obtain ⟨t1, t2, hp⟩ := h.wait c hc
    exact ⟨t1, t2, hp.keptP hT (by rw [t1]; intro e; cases e) (by rw [t2]; intro e; cases e)⟩
/-- what waits of a cycle turned -/
theorem BkAt.waitTurned (h : BkAt tag w bb p pm wm P g H q qm W gw) {c : Int} (hc : H c = true) {X : St} {g' : Nat} (hK : Kept [q c, qm c] w w') (hP : PoolAt w' (q c) (qm c) X g') :
    BkAt tag w' bb p pm wm P g H q qm (set1 W c X) (set1 gw c g') ∧ KeptP (fun k => tag k = .wait c) w w' := by
  obtain ⟨t1, t2, _⟩ := h.wait c hc
  have hT : KeptP (fun k => tag k = .wait c) w w' := KeptP.of_kept hK fun k hk => by
    rcases List.mem_cons.1 hk with e | e
    · rw [e]; exact t1
    · rw [List.mem_singleton.1 e]; exact t2
  have nb : ¬ tag bb = .wait c := by rw [h.tb]; intro e; cases e
  refine ⟨⟨hT.old h.c0 nb, hT.old h.c1 nb, ?_, h.tb, h.tp, h.tpm, h.tm, h.pool.keptP hT (by rw [h.tp]; intro e; cases e) (by rw [h.tpm]; intro e; cases e), fun d hd => ?_, fun k hk => Nat.lt_of_lt_of_le (h.tin k hk) hT.size⟩, hT⟩
  · rw [hT.frozen (p := ⟨bb, 0, none⟩) (cell_lt h.c0) nb]; exact h.f0
  · by_cases e : d = c
    · subst e
      rw [set1_same, set1_same]
      exact ⟨t1, t2, hP⟩
    · obtain ⟨u1, u2, hp⟩ := h.wait d hd
      rw [set1_other _ _ _ _ e, set1_other _ _ _ _ e]
      exact ⟨u1, u2, hp.keptP hT (by rw [u1]; intro e2; cases e2; exact e rfl) (by rw [u2]; intro e2; cases e2; exact e rfl)⟩
/-- fewer cycles have pools -/
theorem BkAt.fewer (h : BkAt tag w bb p pm wm P g H q qm W gw) {H' : Int → Bool} (hH : ∀ c, H' c = true → H c = true) : BkAt tag w bb p pm wm P g H' q qm W gw := ⟨h.c0, h.c1, h.f0, h.tb, h.tp, h.tpm, h.tm, h.pool, fun c hc => h.wait c (hH c hc), h.tin⟩
/-- the map itself turned -/
theorem BkAt.mapTurned (h : BkAt tag w bb p pm wm P g H q qm W gw) (hK : Kept [wm] w w') : BkAt tag w' bb p pm wm P g H q qm W gw ∧ KeptP (fun k => tag k = .wmap) w w' := by
  have hT : KeptP (fun k => tag k = .wmap) w w' := KeptP.of_kept hK fun k hk => by rw [List.mem_singleton.1 hk]; exact h.tm
  have nb : ¬ tag bb = .wmap := by rw [h.tb]; intro e; cases e
  refine ⟨⟨hT.old h.c0 nb, hT.old h.c1 nb, ?_, h.tb, h.tp, h.tpm, h.tm, h.pool.keptP hT (by rw [h.tp]; intro e; cases e) (by rw [h.tpm]; intro e; cases e), fun c hc => ?_, fun k hk => Nat.lt_of_lt_of_le (h.tin k hk) hT.size⟩, hT⟩
  · rw [hT.frozen (p := ⟨bb, 0, none⟩) (cell_lt h.c0) nb]; exact h.f0
  · obtain ⟨t1, t2, hp⟩ := h.wait c hc
    exact ⟨t1, t2, hp.keptP hT (by rw [t1]; intro e; cases e) (by rw [t2]; intro e; cases e)⟩
/-- as what waits reads -/
theorem BkAt.congr (h : BkAt tag w bb p pm wm P g H q qm W gw) {W' : Int → St} {gw' : Int → Nat} (hW : ∀ c, H c = true → W' c = W c) (hg : ∀ c, H c = true → gw c ≤ gw' c) : BkAt tag w bb p pm wm P g H q qm W' gw' :=
  ⟨h.c0, h.c1, h.f0, h.tb, h.tp, h.tpm, h.tm, h.pool, fun c hc => by
    obtain ⟨t1, t2, hp⟩ := h.wait c hc
    rw [hW c hc]
    exact ⟨t1, t2, hp.more (hg c hc)⟩, h.tin⟩
theorem BkAt.moreP (h : BkAt tag w bb p pm wm P g H q qm W gw) {g' : Nat} (hg : g ≤ g') : BkAt tag w bb p pm wm P g' H q qm W gw := ⟨h.c0, h.c1, h.f0, h.tb, h.tp, h.tpm, h.tm, h.pool.more hg, h.wait, h.tin⟩
end
theorem Bkr.keptP {F G : Nat → Prop} {w w' : World} {bb g : Nat} {P : St} {W : Int → St} (h : Bkr F w bb P W g) (hK : KeptP G w w') (hF : ∀ k, G k → ¬ F k) : Bkr F w' bb P W g := by
  obtain ⟨tag, p, pm, wm, H, q, qm, hf, hb, ho, h0, hc⟩ := h
  have hG : ∀ k, G k → tag k = .no := fun k g => Classical.byContradiction fun e => hF k g ((hf k).2 e)
  exact ⟨tag, p, pm, wm, H, q, qm, hf, hb.keptP hK hG, ho.of_block (hb.wm_kept hK (fun g => by have := hG _ g; rw [hb.tm] at this; cases this)), h0, hc⟩
theorem Bkr.lt {F : Nat → Prop} {w : World} {bb g : Nat} {P : St} {W : Int → St} (h : Bkr F w bb P W g) (k : Nat) (hk : F k) : k < w.heap.size := by
  obtain ⟨tag, p, pm, wm, H, q, qm, hf, hb, _⟩ := h
  exact hb.tin k ((hf k).1 hk)
theorem Bkr.base {F : Nat → Prop} {w : World} {bb g : Nat} {P : St} {W : Int → St} (h : Bkr F w bb P W g) : F bb := by
  obtain ⟨tag, p, pm, wm, H, q, qm, hf, hb, _⟩ := h
  exact (hf bb).2 (by rw [hb.tb]; intro e; cases e)
theorem Bkr.more {F : Nat → Prop} {w : World} {bb g g' : Nat} {P : St} {W : Int → St} (h : Bkr F w bb P W g) (hg : g ≤ g') : Bkr F w bb P W g' := by
  obtain ⟨tag, p, pm, wm, H, q, qm, hf, hb, ho, r⟩ := h
  exact ⟨tag, p, pm, wm, H, q, qm, hf, (hb.moreP hg).congr (fun _ _ => rfl) (fun _ _ => hg), ho.more hg, r⟩
theorem Bkr.drewN {F : Nat → Prop} {w : World} {bb g : Nat} {P : St} {W : Int → St} (h : Bkr F w bb P W g) (n : Nat) : Bkr F (w.drewN n) bb P W g := h.keptP (G := fun _ => False) ((KeptP.refl _ _).drewN n) (fun _ g => g.elim)
theorem Bkr.below {F : Nat → Prop} {w w' : World} {bb g : Nat} {P : St} {W : Int → St} (h : Bkr F w bb P W g) (hB : Below w.heap.size w w') : Bkr F w' bb P W g := h.keptP (G := fun _ => False) (KeptP.of_below hB) (fun _ g => g.elim)
end Go.Proofs.YtlhffdmhbplpjabGreatDoor

namespace Go.Proofs.YtlhffdmhbplpjabGreatDoor
open Go.RowKit

/-- what the stakes' errors hold -/
structure StkLaid (w : World) (A : Nat → Addr) : Prop where
  v1 : w.cell? ⟨0, 0, none⟩ = some (sent (A 1))
  v3 : w.cell? ⟨2, 0, none⟩ = some (sent (A 3))
  v4 : w.cell? ⟨1, 0, none⟩ = some (sent (A 4))
  v5 : w.cell? ⟨7, 0, none⟩ = some (sent (A 5))
  v6 : w.cell? ⟨4, 0, none⟩ = some (sent (A 6))
  v7 : w.cell? ⟨3, 0, none⟩ = some (sent (A 7))
theorem stk_old {w w' : World} (hB : Below w.heap.size w w') {a : Addr} {v : Value} (h : w.cell? a = some v) : w'.cell? a = some v := by rw [hB.cell (cell_lt h)]; exact h
theorem StkLaid.below {w w' : World} {A : Nat → Addr} (h : StkLaid w A) (hB : Below w.heap.size w w') : StkLaid w' A :=
  ⟨stk_old hB h.v1, stk_old hB h.v3, stk_old hB h.v4, stk_old hB h.v5, stk_old hB h.v6, stk_old hB h.v7⟩
theorem StkLaid.drewN {w : World} {A : Nat → Addr} (h : StkLaid w A) (n : Nat) : StkLaid (w.drewN n) A := h.below (below_drewN (Below.refl _ _) n)
theorem StkLaid.pool {w : World} {A : Nat → Addr} (h : StkLaid w A) : PoolLaid w A true := ⟨h.v1, h.v3, fun _ => h.v5, h.v6, h.v7⟩

/-- the program's stakes: what is each baker's, and where it lies -/
structure PSkAt (G : Int → Nat → Prop) (bb : Int → Nat) (w : World) (sb : Nat) (S : Sk) (gb : Int → Nat) : Prop where
  c : ∀ b : Nat, b < 3 → w.cell? ⟨sb, b, none⟩ = some (.pointer (if S.R b then some ⟨bb b, 0, none⟩ else none))
  f : ∀ b : Nat, b < 3 → w.frozen? ⟨sb, b, none⟩ = false
  bk : ∀ b, S.R b = true → Bkr (G b) w (bb b) (S.P b) (S.W b) (gb b)
  out : ∀ b, S.R b = false → ∀ k, ¬ G b k
  apart : ∀ b b' k, G b k → G b' k → b = b'
  nsb : ∀ b k, G b k → k ≠ sb
/-- the program's stakes: what blocks are theirs; g: how often their maps were written at most -/
def PSk (F : Nat → Prop) (w : World) (sb : Nat) (S : Sk) (g : Nat) : Prop := ∃ G bb, (∀ k, F k ↔ k = sb ∨ ∃ b, G b k) ∧ PSkAt G bb w sb S fun _ => g

section
variable {G : Int → Nat → Prop} {bb : Int → Nat} {w w' : World} {sb : Nat} {S : Sk} {gb : Int → Nat}
theorem PSkAt.lt (h : PSkAt G bb w sb S gb) {b : Int} {k : Nat} (hk : G b k) : k < w.heap.size := by
  cases hr : S.R b with
  | true => exact (h.bk b hr).lt k hk
  | false => exact absurd hk (h.out b hr k)
theorem PSkAt.keptP {F : Nat → Prop} (h : PSkAt G bb w sb S gb) (hK : KeptP F w w') (hF : ∀ b k, F k → ¬ G b k) (hs : ¬ F sb) : PSkAt G bb w' sb S gb :=
  ⟨fun b hb => hK.old (h.c b hb) hs, fun b hb => by rw [hK.frozen (p := ⟨sb, b, none⟩) (cell_lt (h.c b hb)) hs]; exact h.f b hb, fun b hr => (h.bk b hr).keptP hK (hF b), h.out, h.apart, h.nsb⟩
theorem PSkAt.below (h : PSkAt G bb w sb S gb) (hB : Below w.heap.size w w') : PSkAt G bb w' sb S gb := h.keptP (F := fun _ => False) (KeptP.of_below hB) (fun _ _ g => g.elim) (fun g => g)
theorem PSkAt.drewN (h : PSkAt G bb w sb S gb) (n : Nat) : PSkAt G bb (w.drewN n) sb S gb := h.below (below_drewN (Below.refl _ _) n)
theorem PSkAt.base (h : PSkAt G bb w sb S gb) : sb < w.heap.size := cell_lt (h.c 0 (by omega))
/-- one baker turned -/
theorem PSkAt.turn (h : PSkAt G bb w sb S gb) {b : Int} (hr : S.R b = true) {G' : Nat → Prop} {P' : St} {W' : Int → St} {g' : Nat} (hB : Bkr G' w' (bb b) P' W' g') (hM : Moved (G b) G' w w')
    {S' : Sk} (hR : ∀ i, S'.R i = S.R i) (hP : S'.P b = P') (hW : S'.W b = W') (hPo : ∀ i, i ≠ b → S'.P i = S.P i) (hWo : ∀ i, i ≠ b → S'.W i = S.W i) : PSkAt (set1 G b G') bb w' sb S' (set1 gb b g') := by
  have ns : ¬ G b sb := fun g => h.nsb b sb g rfl
  have old : ∀ i k, set1 G b G' i k → G i k ∨ (i = b ∧ w.heap.size ≤ k) := fun i k g => by
    by_cases e : i = b
    · subst e
      rw [set1_same] at g
      rcases Nat.lt_or_ge k w.heap.size with l | l
      · exact .inl (hM.old k l g)
      · exact .inr ⟨rfl, l⟩
    · rw [set1_other _ _ _ _ e] at g
      exact .inl g
  refine ⟨fun i hi => ?_, fun i hi => ?_, fun i hi => ?_, fun i hi k g => ?_, fun i j k gi gj => ?_, fun i k g => ?_⟩
  · rw [hR]; exact hM.kept.old (h.c i hi) ns
  · rw [hM.kept.frozen (p := ⟨sb, i, none⟩) (cell_lt (h.c i hi)) ns]; exact h.f i hi
  · by_cases e : i = b
    · subst e
      rw [set1_same, set1_same, hP, hW]
      exact hB
    · rw [set1_other _ _ _ _ e, set1_other _ _ _ _ e, hPo i e, hWo i e]
      exact (h.bk i (by rw [← hR]; exact hi)).keptP hM.kept (fun k g g2 => e (h.apart i b k g2 g))
  · rw [hR] at hi
    rcases old i k g with l | ⟨e, _⟩
    · exact h.out i hi k l
    · rw [e, hr] at hi; cases hi
  · rcases old i k gi with l | ⟨e, l⟩ <;> rcases old j k gj with l2 | ⟨e2, l2⟩
    · exact h.apart i j k l l2
    · have := h.lt l; omega
    · have := h.lt l2; omega
    · rw [e, e2]
  · rcases old i k g with l | ⟨e, l⟩
    · exact h.nsb i k l
    · have := h.base; omega
end
/-- blocks of all bakers, and the stakes' own -/
def owns (G : Int → Nat → Prop) (sb : Nat) : Nat → Prop := fun k => k = sb ∨ ∃ b, G b k
theorem moved_turn {G : Int → Nat → Prop} {F : Nat → Prop} {sb : Nat} {w w' : World} (hf : ∀ k, F k ↔ k = sb ∨ ∃ b, G b k) {b : Int} {G' : Nat → Prop} (hM : Moved (G b) G' w w') : Moved F (owns (set1 G b G') sb) w w' := by
  refine ⟨hM.kept.mono fun k _ g => (hf k).2 (.inr ⟨b, g⟩), fun k hk g => (hf k).2 ?_⟩
  rcases g with e | ⟨i, g⟩
  · exact .inl e
  · refine .inr ⟨i, ?_⟩
    by_cases e : i = b
    · subst e
      rw [set1_same] at g
      exact hM.old k hk g
    · rw [set1_other _ _ _ _ e] at g
      exact g
theorem PSk.keptP {F G : Nat → Prop} {w w' : World} {sb g : Nat} {S : Sk} (h : PSk F w sb S g) (hK : KeptP G w w') (hF : ∀ k, G k → ¬ F k) : PSk F w' sb S g := by
  obtain ⟨Gs, bb, hf, h⟩ := h
  exact ⟨Gs, bb, hf, h.keptP hK (fun b k g g2 => hF k g ((hf k).2 (.inr ⟨b, g2⟩))) (fun g => hF sb g ((hf sb).2 (.inl rfl)))⟩
theorem PSk.lt {F : Nat → Prop} {w : World} {sb g : Nat} {S : Sk} (h : PSk F w sb S g) (k : Nat) (hk : F k) : k < w.heap.size := by
  obtain ⟨Gs, bb, hf, h⟩ := h
  rcases (hf k).1 hk with e | ⟨b, g⟩
  · rw [e]; exact h.base
  · exact h.lt g
theorem PSkAt.sk {G : Int → Nat → Prop} {bb : Int → Nat} {w : World} {sb g : Nat} {S : Sk} {gb : Int → Nat} (h : PSkAt G bb w sb S gb) (hg : ∀ b, gb b ≤ g) : PSk (owns G sb) w sb S g :=
  ⟨G, bb, fun _ => Iff.rfl, h.c, h.f, fun b hr => (h.bk b hr).more (hg b), h.out, h.apart, h.nsb⟩
theorem PSk.more {F : Nat → Prop} {w : World} {sb g g' : Nat} {S : Sk} (h : PSk F w sb S g) (hg : g ≤ g') : PSk F w sb S g' := by
  obtain ⟨G, bb, hf, h⟩ := h
  exact ⟨G, bb, hf, h.c, h.f, fun b hr => (h.bk b hr).more hg, h.out, h.apart, h.nsb⟩
end Go.Proofs.YtlhffdmhbplpjabGreatDoor
