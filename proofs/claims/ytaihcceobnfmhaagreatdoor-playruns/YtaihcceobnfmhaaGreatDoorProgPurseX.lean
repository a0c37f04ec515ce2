/-
  Worlds that are alike but for some blocks.
  Worlds that are alike but for blocks of one kind; parts of memory told by tags.
  Parts of memory that are a call's own: one; two that lie apart.
  Parts of memory told by tags: tags anew where a part has moved.
  Package bound by its contracts: which numbers are amounts, and which are owners.
  A sentinel's value.
  An error's value, by its number.
  The program's purse by its contracts.
-/
import Derived.Test.YtaihcceobnfmhaaGreatDoorAidX
import Derived.Laws.AppendOwn
import Derived.Deep.RegionLaw
namespace Go.Proofs.YtaihcceobnfmhaaGreatDoor
open Go.RowKit

/-- of what was there only these blocks may have turned -/
structure Kept (X : List Nat) (w w' : World) : Prop where
  os : w'.os = w.os
  tape : w'.tape = w.tape
  output : w'.output = w.output
  size : w.heap.size ≤ w'.heap.size
  block : ∀ k, k < w.heap.size → k ∉ X → w'.heap[k]? = w.heap[k]?
theorem Kept.refl (X : List Nat) (w : World) : Kept X w w := ⟨rfl, rfl, rfl, Nat.le_refl _, fun _ _ _ => rfl⟩
theorem Kept.trans {X : List Nat} {a b c : World} (h : Kept X a b) (k : Kept X b c) : Kept X a c :=
  ⟨k.os.trans h.os, k.tape.trans h.tape, k.output.trans h.output, Nat.le_trans h.size k.size, fun i hi hx => (k.block i (Nat.lt_of_lt_of_le hi h.size) hx).trans (h.block i hi hx)⟩
theorem Kept.mono {X Y : List Nat} {a b : World} (h : Kept X a b) (hs : ∀ k, k ∈ X → k ∈ Y) : Kept Y a b :=
  ⟨h.os, h.tape, h.output, h.size, fun i hi hx => h.block i hi (fun g => hx (hs i g))⟩
theorem Kept.drewN {X : List Nat} {a w : World} (h : Kept X a w) (n : Nat) : Kept X a (w.drewN n) := ⟨h.os, h.tape, h.output, h.size, h.block⟩
theorem Kept.drew {X : List Nat} {a w : World} (h : Kept X a w) : Kept X a w.drew := ⟨h.os, h.tape, h.output, h.size, h.block⟩
theorem Kept.setCell {X : List Nat} {a w : World} (h : Kept X a w) {p : Addr} (hp : p.block ∈ X) (u : Value) : Kept X a (w.setCell p u) :=
  h.trans ⟨rfl, rfl, rfl, by simp [World.setCell], fun k _ hk => Below.heap_setCell _ _ _ _ (fun e => hk (by rw [e]; exact hp))⟩
theorem Kept.grown {X : List Nat} {a w w' : World} {b : Nat} (h : Kept X a w) (hg : w.grownBy w' (some b)) (hb : b ∈ X) : Kept X a w' :=
  h.trans ⟨hg.os, hg.tape, hg.output, hg.size, fun k hk hx => hg.block k hk (fun e => hx (by cases e; exact hb))⟩
theorem Kept.of_below {X : List Nat} {w w' : World} (h : Below w.heap.size w w') : Kept X w w' := ⟨h.os, h.tape, h.output, h.size, fun k hk _ => h.block k hk⟩
theorem Kept.below {X : List Nat} {B : Nat} {w w' : World} (h : Kept X w w') (hB : B ≤ w.heap.size) (hX : ∀ k, k ∈ X → B ≤ k) : Below B w w' :=
  ⟨h.os, h.tape, h.output, h.size, fun k hk => h.block k (by omega) (fun g => by have := hX k g; omega)⟩
theorem Kept.cell {X : List Nat} {w w' : World} (h : Kept X w w') {p : Addr} (hp : p.block < w.heap.size) (hx : p.block ∉ X) : w'.cell? p = w.cell? p := World.cell?_of_block (w := w) (h.block p.block hp hx)
theorem Kept.frozen {X : List Nat} {w w' : World} (h : Kept X w w') {p : Addr} (hp : p.block < w.heap.size) (hx : p.block ∉ X) : w'.frozen? p = w.frozen? p := World.frozen?_of_block (w := w) (h.block p.block hp hx)
theorem Kept.old {X : List Nat} {w w' : World} (h : Kept X w w') {p : Addr} {v : Value} (hc : w.cell? p = some v) (hx : p.block ∉ X) : w'.cell? p = some v := by rw [h.cell (cell_lt hc) hx]; exact hc
theorem ret_int {k : IntKind} {a b : Int} (h : a = b) : Ending.returned (.int k a) = .returned (.int k b) := by rw [h]
theorem ret_pair {k : IntKind} {a b : Int} (h : a = b) (v : Value) : Ending.returned (.tuple #[.int k a, v]) = .returned (.tuple #[.int k b, v]) := by rw [h]
theorem ret_int2 {k : IntKind} {a b c d : Int} (h : a = b) (g : c = d) : Ending.returned (.tuple #[.int k a, .int k c]) = .returned (.tuple #[.int k b, .int k d]) := by rw [h, g]
end Go.Proofs.YtaihcceobnfmhaaGreatDoor

namespace Go.Proofs.YtaihcceobnfmhaaGreatDoor
open Go.RowKit

/-- of what was there only such blocks may have turned -/
structure KeptP (F : Nat → Prop) (w w' : World) : Prop where
  os : w'.os = w.os
  tape : w'.tape = w.tape
  output : w'.output = w.output
  size : w.heap.size ≤ w'.heap.size
  block : ∀ k, k < w.heap.size → ¬ F k → w'.heap[k]? = w.heap[k]?
theorem KeptP.refl (F : Nat → Prop) (w : World) : KeptP F w w := ⟨rfl, rfl, rfl, Nat.le_refl _, fun _ _ _ => rfl⟩
theorem KeptP.mono {F G : Nat → Prop} {a b : World} (h : KeptP F a b) (hs : ∀ k, k < a.heap.size → F k → G k) : KeptP G a b :=
  ⟨h.os, h.tape, h.output, h.size, fun i hi hx => h.block i hi (fun g => hx (hs i hi g))⟩
/-- what a second step turns beside is new -/
theorem KeptP.trans {F G : Nat → Prop} {a b c : World} (h : KeptP F a b) (k : KeptP G b c) (hg : ∀ i, i < a.heap.size → G i → F i) : KeptP F a c :=
  ⟨k.os.trans h.os, k.tape.trans h.tape, k.output.trans h.output, Nat.le_trans h.size k.size, fun i hi hx => (k.block i (Nat.lt_of_lt_of_le hi h.size) (fun g => hx (hg i hi g))).trans (h.block i hi hx)⟩
theorem KeptP.drewN {F : Nat → Prop} {a w : World} (h : KeptP F a w) (n : Nat) : KeptP F a (w.drewN n) := ⟨h.os, h.tape, h.output, h.size, h.block⟩
theorem KeptP.drew {F : Nat → Prop} {a w : World} (h : KeptP F a w) : KeptP F a w.drew := ⟨h.os, h.tape, h.output, h.size, h.block⟩
theorem KeptP.setCell {F : Nat → Prop} {a w : World} (h : KeptP F a w) {p : Addr} (hp : F p.block) (u : Value) : KeptP F a (w.setCell p u) :=
  h.trans (G := F) ⟨rfl, rfl, rfl, by simp [World.setCell], fun k _ hk => Below.heap_setCell _ _ _ _ (fun e => hk (by rw [e]; exact hp))⟩ fun _ _ g => g
theorem KeptP.of_below {F : Nat → Prop} {w w' : World} (h : Below w.heap.size w w') : KeptP F w w' := ⟨h.os, h.tape, h.output, h.size, fun k hk _ => h.block k hk⟩
theorem KeptP.of_kept {F : Nat → Prop} {X : List Nat} {w w' : World} (h : Kept X w w') (hx : ∀ k, k ∈ X → F k) : KeptP F w w' := ⟨h.os, h.tape, h.output, h.size, fun k hk hF => h.block k hk (fun g => hF (hx k g))⟩
theorem KeptP.below {F : Nat → Prop} {B : Nat} {w w' : World} (h : KeptP F w w') (hB : B ≤ w.heap.size) (hX : ∀ k, F k → B ≤ k) : Below B w w' :=
  ⟨h.os, h.tape, h.output, h.size, fun k hk => h.block k (by omega) (fun g => by have := hX k g; omega)⟩
theorem KeptP.cell {F : Nat → Prop} {w w' : World} (h : KeptP F w w') {p : Addr} (hp : p.block < w.heap.size) (hx : ¬ F p.block) : w'.cell? p = w.cell? p := World.cell?_of_block (w := w) (h.block p.block hp hx)
theorem KeptP.frozen {F : Nat → Prop} {w w' : World} (h : KeptP F w w') {p : Addr} (hp : p.block < w.heap.size) (hx : ¬ F p.block) : w'.frozen? p = w.frozen? p := World.frozen?_of_block (w := w) (h.block p.block hp hx)
theorem KeptP.old {F : Nat → Prop} {w w' : World} (h : KeptP F w w') {p : Addr} {v : Value} (hc : w.cell? p = some v) (hx : ¬ F p.block) : w'.cell? p = some v := by rw [h.cell (cell_lt hc) hx]; exact hc
/-- some blocks alone -/
theorem KeptP.kept {F : Nat → Prop} {w w' : World} (h : KeptP F w w') : Below 0 w w' := ⟨h.os, h.tape, h.output, h.size, fun k hk => by omega⟩
/-- what a step did: of what was there only its own has turned, and all that it has now it had, or it is new -/
structure Moved (F F' : Nat → Prop) (w w' : World) : Prop where
  kept : KeptP F w w'
  old : ∀ k, k < w.heap.size → F' k → F k
theorem Moved.refl (F : Nat → Prop) (w : World) : Moved F F w w := ⟨KeptP.refl _ _, fun _ _ h => h⟩
theorem Moved.trans {F F' F'' : Nat → Prop} {a b c : World} (h : Moved F F' a b) (k : Moved F' F'' b c) : Moved F F'' a c :=
  ⟨h.kept.trans k.kept h.old, fun i hi g => h.old i hi (k.old i (Nat.lt_of_lt_of_le hi h.kept.size) g)⟩
theorem Moved.drewN {F F' : Nat → Prop} {a w : World} (h : Moved F F' a w) (n : Nat) : Moved F F' a (w.drewN n) := ⟨h.kept.drewN n, h.old⟩
theorem Moved.drew {F F' : Nat → Prop} {a w : World} (h : Moved F F' a w) : Moved F F' a w.drew := ⟨h.kept.drew, h.old⟩
theorem drewN_twice (w : World) (m n : Nat) : (w.drewN m).drewN n = w.drewN (m + n) := by simp [World.drewN, Nat.add_assoc]
theorem ownsRow_keptP {B : Nat} {w w' : World} {e : TypeId} {size n : Nat} {v : Value} {xs : List Value} {F : Nat → Prop} (h : w.ownsRow B e size v n xs) (hK : KeptP F w w') (hv : ∀ g, v.ownBlock = some g → ¬ F g) : w'.ownsRow B e size v n xs := by
  refine ⟨h.1, ?_⟩
  rcases h.2 with g | ⟨g, cap, cur, rfl, hb, hg, h1, h2, h3, h4⟩
  · exact .inl g
  · refine .inr ⟨g, cap, cur, rfl, hb, ?_, h1, h2, h3, h4⟩
    have hlt : g < w.heap.size := by
      rcases Nat.lt_or_ge g w.heap.size with l | l
      · exact l
      · rw [Array.getElem?_eq_none l] at hg; cases hg
    rw [hK.block g hlt (hv g rfl)]
    exact hg
theorem step_append_by {P : Program} {ops : Array Oper} {o : Oper} {a : Act} {w : World} {K : Act → World → Prop} {Q : Exit → Act → World → Prop} {E : Prop} (hg : o.guard = none) (s x : Operand) (t : TypeId)
    (ho : o.op = .call { callee := .builtin .append, args := #[s, x], argTypes := #[t, t] }) (vs vx : Value) (hs : a.eval s = vs) (hx : a.eval x = vx) (v' : Value) (w' : World)
    (hr : (Builtin.append_ #[t, t] o.type #[vs, vx]).run P w = .ok v' w') (h : K (a.put o.dst v') w') : if Region.wanted o (yielded ops a.tmps) = true then Oper.wp P o a w K Q else E := by
  have hw : Region.wanted o (yielded ops a.tmps) = true := by simp [Region.wanted, hg]
  rw [if_pos hw]
  unfold Oper.wp execOp
  simp only [ho, resolve, invoke, builtin, Sem.run_bind, Sem.run_pure, Result.andThen_ok, List.map_toArray, List.map_cons, List.map_nil, hs, hx, hr]
  exact h
end Go.Proofs.YtaihcceobnfmhaaGreatDoor

namespace Go.Proofs.YtaihcceobnfmhaaGreatDoor
open Go.RowKit

/-- what is its own lies behind B -/
structure Mine (B : Nat) (w0 w : World) (F : Nat → Prop) : Prop where
  f : ∀ k, F k → B ≤ k
  below : Below B w0 w
  size : B ≤ w.heap.size
theorem Mine.next {B : Nat} {w0 w w' : World} {F F' : Nat → Prop} (h : Mine B w0 w F) (hM : Moved F F' w w') : Mine B w0 w' F' := by
  refine ⟨fun k hk => ?_, h.below.trans (hM.kept.below h.size h.f), Nat.le_trans h.size hM.kept.size⟩
  rcases Nat.lt_or_ge k w.heap.size with l | l
  · exact h.f k (hM.old k l hk)
  · exact Nat.le_trans h.size l
theorem Mine.nextB {B : Nat} {w0 w w' : World} {F : Nat → Prop} (h : Mine B w0 w F) (k : Below w.heap.size w w') : Mine B w0 w' F :=
  ⟨h.f, h.below.trans (k.mono h.size), Nat.le_trans h.size k.size⟩
theorem Mine.drewN {B : Nat} {w0 w : World} {F : Nat → Prop} (h : Mine B w0 w F) (n : Nat) : Mine B w0 (w.drewN n) F := h.nextB (below_drewN (Below.refl _ _) n)
theorem Mine.new {w w' : World} {F : Nat → Prop} (hF : ∀ k, F k → w.heap.size ≤ k) (hB : Below w.heap.size w w') : Mine w.heap.size w w' F := ⟨hF, hB, hB.size⟩
/-- what lies apart, and behind B -/
structure Sides (B : Nat) (w0 w : World) (F G : Nat → Prop) : Prop where
  apart : ∀ k, F k → ¬ G k
  f : ∀ k, F k → B ≤ k
  g : ∀ k, G k → B ≤ k
  below : Below B w0 w
  size : B ≤ w.heap.size
theorem Sides.nextB {B : Nat} {w0 w w' : World} {F G : Nat → Prop} (h : Sides B w0 w F G) (k : Below w.heap.size w w') : Sides B w0 w' F G :=
  ⟨h.apart, h.f, h.g, h.below.trans (k.mono h.size), Nat.le_trans h.size k.size⟩
theorem Sides.drewN {B : Nat} {w0 w : World} {F G : Nat → Prop} (h : Sides B w0 w F G) (n : Nat) : Sides B w0 (w.drewN n) F G := h.nextB (below_drewN (Below.refl _ _) n)
/-- a cell of another's -/
theorem Moved.cell {F F' : Nat → Prop} {w w' : World} (h : Moved F F' w w') {p : Addr} {v : Value} (hc : w.cell? p = some v) (hx : ¬ F p.block) : w'.cell? p = some v := h.kept.old hc hx
/-- a step of the first, of the second -/
theorem Sides.one {B : Nat} {w0 w w' : World} {F F' G : Nat → Prop} (h : Sides B w0 w F G) (hlt : ∀ k, G k → k < w.heap.size) (hM : Moved F F' w w') : Sides B w0 w' F' G := by
  refine ⟨fun k hk hg => ?_, fun k hk => ?_, h.g, h.below.trans (hM.kept.below h.size h.f), Nat.le_trans h.size hM.kept.size⟩
  · exact h.apart k (hM.old k (hlt k hg) hk) hg
  · rcases Nat.lt_or_ge k w.heap.size with l | l
    · exact h.f k (hM.old k l hk)
    · exact Nat.le_trans h.size l
theorem Sides.two {B : Nat} {w0 w w' : World} {F G G' : Nat → Prop} (h : Sides B w0 w F G) (hlt : ∀ k, F k → k < w.heap.size) (hM : Moved G G' w w') : Sides B w0 w' F G' := by
  refine ⟨fun k hk hg => ?_, h.f, fun k hk => ?_, h.below.trans (hM.kept.below h.size h.g), Nat.le_trans h.size hM.kept.size⟩
  · exact h.apart k hk (hM.old k (hlt k hk) hg)
  · rcases Nat.lt_or_ge k w.heap.size with l | l
    · exact h.g k (hM.old k l hk)
    · exact Nat.le_trans h.size l
end Go.Proofs.YtaihcceobnfmhaaGreatDoor

namespace Go.Proofs.YtaihcceobnfmhaaGreatDoor
open Go.RowKit

/-- tags anew, where the part t has become G -/
noncomputable def retag (tag : Nat → Nat) (t : Nat) (G : Nat → Prop) : Nat → Nat := fun k => open Classical in if G k then t else if tag k = t then 0 else tag k
theorem retag_is {tag : Nat → Nat} {t : Nat} {G : Nat → Prop} {k : Nat} (h : G k) : retag tag t G k = t := if_pos h
theorem retag_not {tag : Nat → Nat} {t : Nat} {G : Nat → Prop} {k : Nat} (h : ¬ G k) (n : tag k ≠ t) : retag tag t G k = tag k := by unfold retag; rw [if_neg h, if_neg n]
theorem retag_iff {tag : Nat → Nat} {t : Nat} {G : Nat → Prop} (ht : t ≠ 0) (k : Nat) : retag tag t G k = t ↔ G k := by
  refine ⟨fun e => ?_, retag_is⟩
  by_cases g : G k
  · exact g
  · unfold retag at e
    rw [if_neg g] at e
    split at e
    · exact absurd e.symm ht
    · rename_i n; exact absurd e n
theorem retag_other {tag : Nat → Nat} {t u : Nat} {w w' : World} {G : Nat → Prop} (hM : Moved (fun k => tag k = t) G w w') (hl : ∀ k, tag k ≠ 0 → k < w.heap.size) (ut : u ≠ t) (u0 : u ≠ 0) {k : Nat} (h : tag k = u) : retag tag t G k = u := by
  have n : tag k ≠ t := by rw [h]; exact ut
  rw [retag_not (fun g => n (hM.old k (hl k (by rw [h]; exact u0)) g)) n, h]
theorem retag_back {tag : Nat → Nat} {t u : Nat} {G : Nat → Prop} (ut : u ≠ t) (u0 : u ≠ 0) {k : Nat} (h : retag tag t G k = u) : tag k = u := by
  unfold retag at h
  split at h
  · exact absurd h.symm ut
  · split at h
    · exact absurd h.symm u0
    · exact h
theorem retag_iff' {tag : Nat → Nat} {t u : Nat} {w w' : World} {G : Nat → Prop} (hM : Moved (fun k => tag k = t) G w w') (hl : ∀ k, tag k ≠ 0 → k < w.heap.size) (ut : u ≠ t) (u0 : u ≠ 0) : (fun k => retag tag t G k = u) = (fun k => tag k = u) := by
  funext k
  exact propext ⟨retag_back ut u0, retag_other hM hl ut u0⟩
theorem retag_moved {tag : Nat → Nat} {t : Nat} {w w' : World} {F G : Nat → Prop} (hF : ∀ k, F k ↔ tag k ≠ 0) (hM : Moved (fun k => tag k = t) G w w') (t0 : t ≠ 0) : Moved F (fun k => retag tag t G k ≠ 0) w w' := by
  refine ⟨hM.kept.mono fun k _ e => (hF k).2 (by rw [e]; exact t0), fun k hk h => ?_⟩
  by_cases g : G k
  · exact (hF k).2 (by rw [hM.old k hk g]; exact t0)
  · unfold retag at h
    rw [if_neg g] at h
    split at h
    · exact absurd rfl h
    · exact (hF k).2 h
end Go.Proofs.YtaihcceobnfmhaaGreatDoor

namespace Go.Proofs.YtaihcceobnfmhaaGreatDoor
open Go.RowKit

theorem owner_yes (o : Int) (h0 : 0 ≤ o) (h6 : o < 6) (w : World) :
    Calls Tryz.prog 117 #[.int .i64 o] w fun e w' => e = .returned (.bool true) ∧ w' = w := by
  go_enter Tryz.func117, Tryz.ntmps117
  go_wp2
  go_ret
  exact ⟨rfl, rfl⟩
theorem owner_no (o : Int) (h : ¬ (0 ≤ o ∧ o < 6)) (w : World) :
    Calls Tryz.prog 117 #[.int .i64 o] w fun e w' => e = .returned (.bool false) ∧ w' = w := by
  by_cases h0 : 0 ≤ o
  · have h6 : ¬ o < 6 := by omega
    clear h
    go_enter Tryz.func117, Tryz.ntmps117
    go_wp2
    go_ret
    exact ⟨rfl, rfl⟩
  · clear h
    go_enter Tryz.func117, Tryz.ntmps117
    go_wp2
    go_ret
    exact ⟨rfl, rfl⟩
theorem some_yes (n : Int) (h0 : 1 ≤ n) (h1 : n ≤ 1125899906842624) (w : World) :
    Calls Tryz.prog 150 #[.int .i64 n] w fun e w' => e = .returned (.bool true) ∧ w' = w := by
  go_enter Tryz.func150, Tryz.ntmps150
  go_wp2
  go_ret
  exact ⟨rfl, rfl⟩
theorem some_no (n : Int) (h : ¬ (1 ≤ n ∧ n ≤ 1125899906842624)) (w : World) :
    Calls Tryz.prog 150 #[.int .i64 n] w fun e w' => e = .returned (.bool false) ∧ w' = w := by
  by_cases h0 : 1 ≤ n
  · have h1 : ¬ n ≤ 1125899906842624 := by omega
    clear h
    go_enter Tryz.func150, Tryz.ntmps150
    go_wp2
    go_ret
    exact ⟨rfl, rfl⟩
  · clear h
    go_enter Tryz.func150, Tryz.ntmps150
    go_wp2
    go_ret
    exact ⟨rfl, rfl⟩
theorem amount_yes (n : Int) (h0 : 0 ≤ n) (h1 : n ≤ 1125899906842624) (w : World) :
    Calls Tryz.prog 153 #[.int .i64 n] w fun e w' => e = .returned (.bool true) ∧ w' = w := by
  go_enter Tryz.func153, Tryz.ntmps153
  go_wp2
  go_ret
  exact ⟨rfl, rfl⟩
theorem amount_no (n : Int) (h : ¬ (0 ≤ n ∧ n ≤ 1125899906842624)) (w : World) :
    Calls Tryz.prog 153 #[.int .i64 n] w fun e w' => e = .returned (.bool false) ∧ w' = w := by
  by_cases h0 : 0 ≤ n
  · have h1 : ¬ n ≤ 1125899906842624 := by omega
    clear h
    go_enter Tryz.func153, Tryz.ntmps153
    go_wp2
    go_ret
    exact ⟨rfl, rfl⟩
  · clear h
    go_enter Tryz.func153, Tryz.ntmps153
    go_wp2
    go_ret
    exact ⟨rfl, rfl⟩
end Go.Proofs.YtaihcceobnfmhaaGreatDoor

namespace Go.Proofs.YtaihcceobnfmhaaGreatDoor

/-- a sentinel's value: a pointer to an errors.errorString -/
abbrev sent (a : Addr) : Value := .iface 243 (.pointer (some a))
theorem drew_cell (w : World) (n : Nat) (a : Addr) : (w.drewN n).cell? a = w.cell? a := by simp
end Go.Proofs.YtaihcceobnfmhaaGreatDoor

namespace Go.Proofs.YtaihcceobnfmhaaGreatDoor

/-- an error's value, by its number -/
def ErrIs (A : Nat → Addr) (e : Value) (c : Int) : Prop := (c = 0 ∧ e = .nilIface) ∨ ∃ i : Nat, i < 10 ∧ c = i + 1 ∧ e = sent (A i)
end Go.Proofs.YtaihcceobnfmhaaGreatDoor

namespace Go.Proofs.YtaihcceobnfmhaaGreatDoor
open Go.RowKit

/-- what the purse's errors hold -/
structure PurLaid (w : World) (A : Nat → Addr) : Prop where
  v1 : w.cell? ⟨0, 0, none⟩ = some (sent (A 1))
  v5 : w.cell? ⟨6, 0, none⟩ = some (sent (A 5))
theorem PurLaid.below {w w' : World} {A : Nat → Addr} (h : PurLaid w A) (hB : Below w.heap.size w w') : PurLaid w' A :=
  ⟨by rw [hB.cell (cell_lt h.v1)]; exact h.v1, by rw [hB.cell (cell_lt h.v5)]; exact h.v5⟩
theorem PurLaid.drewN {w : World} {A : Nat → Addr} (h : PurLaid w A) (n : Nat) : PurLaid (w.drewN n) A := h.below (below_drewN (Below.refl _ _) n)
theorem err_none (A : Nat → Addr) {c : Int} (h : c = 0) : ErrIs A .nilIface c := .inl ⟨h, rfl⟩
theorem err_bound (A : Nat → Addr) {c : Int} (h : c = 2) : ErrIs A (sent (A 1)) c := .inr ⟨1, by omega, by omega, rfl⟩
theorem err_short (A : Nat → Addr) {c : Int} (h : c = 6) : ErrIs A (sent (A 5)) c := .inr ⟨5, by omega, by omega, rfl⟩

/-- six numbers, and a seventh -/
structure PRaw (w : World) (b : Nat) (f : Int → Int) (N : Int) : Prop where
  s : ∀ i : Nat, i < 6 → w.cell? ⟨b, i, none⟩ = some (.int .i64 (f i))
  c6 : w.cell? ⟨b, 6, none⟩ = some (.int .i64 N)
  f : ∀ i : Nat, w.frozen? ⟨b, i, none⟩ = false
theorem PRaw.drewN {w : World} {b : Nat} {f : Int → Int} {N : Int} (h : PRaw w b f N) (n : Nat) : PRaw (w.drewN n) b f N := ⟨h.s, h.c6, h.f⟩
theorem PRaw.drew {w : World} {b : Nat} {f : Int → Int} {N : Int} (h : PRaw w b f N) : PRaw w.drew b f N := ⟨h.s, h.c6, h.f⟩
theorem PRaw.setN {w : World} {b : Nat} {f : Int → Int} {N : Int} (h : PRaw w b f N) (v : Int) : PRaw (w.setCell ⟨b, 6, none⟩ (.int .i64 v)) b f v where
  s := fun i hi => by rw [World.cell?_setCell_other _ _ _ _ (fun e => absurd (congrArg Addr.off e) (show ¬ 6 = i by omega))]; exact h.s i hi
  c6 := World.cell?_setCell_same _ _ _ h.c6
  f := fun i => by rw [World.frozen?_setCell]; exact h.f i
theorem PRaw.setO {w : World} {b : Nat} {f : Int → Int} {N : Int} (h : PRaw w b f N) (k : Nat) (hk : k < 6) (v : Int) : PRaw (w.setCell ⟨b, k, none⟩ (.int .i64 v)) b (put f k v) N where
  s := fun i hi => by
    by_cases e : i = k
    · subst e
      rw [World.cell?_setCell_same _ _ _ (h.s i hi), put_same]
    · rw [World.cell?_setCell_other _ _ _ _ (by simp; try omega), put_other _ _ _ _ (by omega)]; exact h.s i hi
  c6 := by rw [World.cell?_setCell_other _ _ _ _ (fun e => absurd (congrArg Addr.off e) (show ¬ k = 6 by omega))]; exact h.c6
  f := fun i => by rw [World.frozen?_setCell]; exact h.f i

/-- the program's purse, as it lies in memory: what each may spend, and what is nobody's -/
structure PurAt (w : World) (b : Nat) (x : Pu) : Prop where
  raw : PRaw w b x.s (x.S - x.sum)
  ok : x.Ok
theorem PurAt.drewN {w : World} {b : Nat} {x : Pu} (h : PurAt w b x) (n : Nat) : PurAt (w.drewN n) b x := ⟨h.raw.drewN n, h.ok⟩
theorem PurAt.lt {w : World} {b : Nat} {x : Pu} (h : PurAt w b x) : b < w.heap.size := cell_lt h.raw.c6
theorem PurAt.kept {w w' : World} {b : Nat} {x : Pu} {X : List Nat} (h : PurAt w b x) (hK : Kept X w w') (hb : b ∉ X) : PurAt w' b x where
  raw := ⟨fun i hi => hK.old (h.raw.s i hi) hb, hK.old h.raw.c6 hb, fun i => by rw [hK.frozen (p := ⟨b, i, none⟩) h.lt hb]; exact h.raw.f i⟩
  ok := h.ok

/-- what is nobody's, and the first so many owners' -/
def preS (N : Int) (f : Int → Int) : Nat → Int
  | 0 => N
  | k + 1 => preS N f k + f k
theorem preS_six (x : Pu) : preS (x.S - x.sum) x.s 6 = x.S := by simp [preS, Pu.sum]; omega
theorem preS_bd {x : Pu} (h : x.Ok) : ∀ k, k ≤ 6 → 0 ≤ preS (x.S - x.sum) x.s k ∧ preS (x.S - x.sum) x.s k ≤ x.S
  | 0, _ => ⟨by have := h.le; simp only [preS]; omega, by have := h.sum0; simp only [preS]; omega⟩
  | k + 1, hk => by
    have h0 := h.pos 0
    have h1 := h.pos 1
    have h2 := h.pos 2
    have h3 := h.pos 3
    have h4 := h.pos 4
    have h5 := h.pos 5
    have hl := h.le
    unfold Pu.sum at hl
    have : k = 0 ∨ k = 1 ∨ k = 2 ∨ k = 3 ∨ k = 4 ∨ k = 5 := by omega
    rcases this with rfl | rfl | rfl | rfl | rfl | rfl <;> (simp [preS, Pu.sum]; omega)
theorem six_at0 (f : Int → Int) (w : World) : (Instr.index 160 (.agg #[.int .i64 (f 0), .int .i64 (f 1), .int .i64 (f 2), .int .i64 (f 3), .int .i64 (f 4), .int .i64 (f 5)]) (.int .i64 0)).run Tryz.prog w = .ok (.int .i64 (f 0)) w := by kernel_rfl
theorem six_at1 (f : Int → Int) (w : World) : (Instr.index 160 (.agg #[.int .i64 (f 0), .int .i64 (f 1), .int .i64 (f 2), .int .i64 (f 3), .int .i64 (f 4), .int .i64 (f 5)]) (.int .i64 1)).run Tryz.prog w = .ok (.int .i64 (f 1)) w := by kernel_rfl
theorem six_at2 (f : Int → Int) (w : World) : (Instr.index 160 (.agg #[.int .i64 (f 0), .int .i64 (f 1), .int .i64 (f 2), .int .i64 (f 3), .int .i64 (f 4), .int .i64 (f 5)]) (.int .i64 2)).run Tryz.prog w = .ok (.int .i64 (f 2)) w := by kernel_rfl
theorem six_at3 (f : Int → Int) (w : World) : (Instr.index 160 (.agg #[.int .i64 (f 0), .int .i64 (f 1), .int .i64 (f 2), .int .i64 (f 3), .int .i64 (f 4), .int .i64 (f 5)]) (.int .i64 3)).run Tryz.prog w = .ok (.int .i64 (f 3)) w := by kernel_rfl
theorem six_at4 (f : Int → Int) (w : World) : (Instr.index 160 (.agg #[.int .i64 (f 0), .int .i64 (f 1), .int .i64 (f 2), .int .i64 (f 3), .int .i64 (f 4), .int .i64 (f 5)]) (.int .i64 4)).run Tryz.prog w = .ok (.int .i64 (f 4)) w := by kernel_rfl
theorem six_at5 (f : Int → Int) (w : World) : (Instr.index 160 (.agg #[.int .i64 (f 0), .int .i64 (f 1), .int .i64 (f 2), .int .i64 (f 3), .int .i64 (f 4), .int .i64 (f 5)]) (.int .i64 5)).run Tryz.prog w = .ok (.int .i64 (f 5)) w := by kernel_rfl
theorem six_at (f : Int → Int) (k : Nat) (hk : k < 6) (w : World) : (Instr.index 160 (.agg #[.int .i64 (f 0), .int .i64 (f 1), .int .i64 (f 2), .int .i64 (f 3), .int .i64 (f 4), .int .i64 (f 5)]) (.int .i64 k)).run Tryz.prog w = .ok (.int .i64 (f k)) w := by
  have : k = 0 ∨ k = 1 ∨ k = 2 ∨ k = 3 ∨ k = 4 ∨ k = 5 := by omega
  rcases this with rfl | rfl | rfl | rfl | rfl | rfl
  · exact six_at0 f w
  · exact six_at1 f w
  · exact six_at2 f w
  · exact six_at3 f w
  · exact six_at4 f w
  · exact six_at5 f w

set_option maxRecDepth 100000 in
set_option maxHeartbeats 1000000 in
theorem pu_supply (b : Nat) (x : Pu) (w : World) (h : PurAt w b x) :
    Calls Tryz.prog 52 #[.pointer (some ⟨b, 0, none⟩)] w fun e w' => e = .returned (.int .i64 x.S) ∧ w' = w := by
  have c6 := h.raw.c6
  have s0 := h.raw.s 0 (by omega)
  have s1 := h.raw.s 1 (by omega)
  have s2 := h.raw.s 2 (by omega)
  have s3 := h.raw.s 3 (by omega)
  have s4 := h.raw.s 4 (by omega)
  have s5 := h.raw.s 5 (by omega)
  have a2 := h.ok.top
  have hx := h.ok
  have E := hide (preS_six x)
  have D := hide (@preS_bd x hx)
  clear h
  obtain ⟨N, hN⟩ : ∃ N, x.S - x.sum = N := ⟨_, rfl⟩
  rw [hN] at c6 E D
  clear hN hx
  go_enter Tryz.func52, Tryz.ntmps52
  go_wp2
  go_loop [3, 14] (fun n i => ∃ k : Nat, k ≤ 6 ∧ i = .int .i64 k ∧ n = .int .i64 (preS N x.s k)) (fun _ i => 6 - (intOf i).toNat)
  case atStart => exact ⟨0, by omega, rfl, rfl⟩
  case round =>
    obtain ⟨k, hk, rfl, rfl⟩ := hrel
    by_cases hlt : k < 6
    · have hi := six_at x.s k hlt
      have hp := D.out k (by omega)
      have hq := D.out (k + 1) (by omega)
      have he : preS N x.s (k + 1) = preS N x.s k + x.s k := rfl
      rw [he] at hq
      clear he
      go_wp2
      go_round
      case rel => exact ⟨k + 1, by omega, by go_num, rfl⟩
      case measure => simp [intOf]; omega
    · obtain rfl : k = 6 := by omega
      go_wp2
      go_ret
      exact ⟨ret_int E.out, rfl⟩
theorem pu_has (b : Nat) (x : Pu) (hx : x.Ok) (o : Int) (w : World) (h : PurAt w b x) :
    Calls Tryz.prog 59 #[.pointer (some ⟨b, 0, none⟩), .int .i64 o] w fun e w' => e = .returned (.int .i64 (x.s o)) ∧ w' = w := by
  by_cases ho : 0 ≤ o ∧ o < 6
  · have Iw := owner_yes o ho.1 ho.2
    obtain ⟨k, rfl⟩ : ∃ k : Nat, o = k := ⟨o.toNat, by omega⟩
    have hk : k < 6 := by omega
    have cs := h.raw.s k hk
    clear ho
    go_enter Tryz.func59, Tryz.ntmps59
    go_wp2_with (go_at_call 117; refine (Iw _).mono ?_; rintro e w' ⟨rfl, rfl⟩)
    go_ret
    exact ⟨rfl, rfl⟩
  · have Iw := owner_no o ho
    have E := hide (hx.out o ho)
    clear ho
    go_enter Tryz.func59, Tryz.ntmps59
    go_wp2_with (go_at_call 117; refine (Iw _).mono ?_; rintro e w' ⟨rfl, rfl⟩)
    go_ret
    exact ⟨ret_int E.out.symm, rfl⟩
set_option maxHeartbeats 1000000 in
/-- may it grow by so much? -/
theorem pu_may (b : Nat) (x : Pu) (hx : x.Ok) (n : Int) (hn : Amt n ∧ x.S + n ≤ 1125899906842624) (w : World) (h : PurAt w b x) :
    Calls Tryz.prog 143 #[.pointer (some ⟨b, 0, none⟩), .int .i64 n] w fun e w' => e = .returned (.bool true) ∧ w' = w := by
  have I := amount_yes n hn.1.1 hn.1.2
  have s0 := hx.sum0
  have a1 := hx.le
  have a2 := hx.top
  have J := amount_yes (x.S + n) (by have := hn.1.1; omega) hn.2
  have n0 := hn.1.1
  have n1 := hn.1.2
  have n2 := hn.2
  clear hn
  go_enter Tryz.func143, Tryz.ntmps143
  go_wp2_with fail
  refine (I _).mono ?_
  rintro e w' ⟨rfl, rfl⟩
  go_wp2_with fail
  refine (pu_supply b x _ h).mono ?_
  rintro e w' ⟨rfl, rfl⟩
  go_wp2_with fail
  refine (J _).mono ?_
  rintro e w' ⟨rfl, rfl⟩
  go_wp2_with fail
  go_ret
  exact ⟨rfl, rfl⟩
set_option maxHeartbeats 1000000 in
theorem pu_mayNot (b : Nat) (x : Pu) (hx : x.Ok) (n : Int) (hn : ¬ (Amt n ∧ x.S + n ≤ 1125899906842624)) (w : World) (h : PurAt w b x) :
    Calls Tryz.prog 143 #[.pointer (some ⟨b, 0, none⟩), .int .i64 n] w fun e w' => e = .returned (.bool false) ∧ w' = w := by
  by_cases hb : Amt n
  · have I := amount_yes n hb.1 hb.2
    have s0 := hx.sum0
    have a1 := hx.le
    have a2 := hx.top
    have n0 := hb.1
    have n1 := hb.2
    have n2 : ¬ x.S + n ≤ 1125899906842624 := fun g => hn ⟨hb, g⟩
    have J := amount_no (x.S + n) (fun g => n2 g.2)
    clear hn hb
    go_enter Tryz.func143, Tryz.ntmps143
    go_wp2_with fail
    refine (I _).mono ?_
    rintro e w' ⟨rfl, rfl⟩
    go_wp2_with fail
    refine (pu_supply b x _ h).mono ?_
    rintro e w' ⟨rfl, rfl⟩
    go_wp2_with fail
    refine (J _).mono ?_
    rintro e w' ⟨rfl, rfl⟩
    go_wp2_with fail
    go_ret
    exact ⟨rfl, rfl⟩
  · have I := amount_no n hb
    clear hn hb
    go_enter Tryz.func143, Tryz.ntmps143
    go_wp2_with fail
    refine (I _).mono ?_
    rintro e w' ⟨rfl, rfl⟩
    go_wp2_with fail
    go_ret
    exact ⟨rfl, rfl⟩
end Go.Proofs.YtaihcceobnfmhaaGreatDoor
