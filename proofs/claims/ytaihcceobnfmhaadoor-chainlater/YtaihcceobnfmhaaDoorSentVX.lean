/-
  Parts of memory that are a call's own: one; two that lie apart.
  Parts of memory told by tags: tags anew where a part has moved.
  Package bound by its contracts: which numbers are amounts, and which are owners.
  A sentinel's value.
-/
import Derived.Test.YtaihcceobnfmhaaDoorKeptPX
import Derived.Test.YtaihcceobnfmhaaDoorQuoX
namespace Go.Proofs.YtaihcceobnfmhaaDoor
open Go.RowKit

/-- what is its own lies behind B -/
structure Mine (B : Nat) (w0 w : World) (F : Nat → Prop) : Prop where
  f : ∀ k, F k → B ≤ k
  below : Below B w0 w
  size : B ≤ w.heap.size
theorem Mine.next {B : Nat} {w0 w w' : World} {F F' : Nat → Prop} (h : Mine B w0 w F) (hM : Moved F F' w w') : Mine B w0 w' F' := by
  refine ⟨fun k hk => ?_, h.below.trans (hM.kept.below h.size h.f), Nat.le_trans h.size hM.kept.size⟩
  rcases Nat.lt_or_ge k w.heap.size with l | l
  · exact h.f k (hM.old k l hk)
  · exact Nat.le_trans h.size l
theorem Mine.nextB {B : Nat} {w0 w w' : World} {F : Nat → Prop} (h : Mine B w0 w F) (k : Below w.heap.size w w') : Mine B w0 w' F :=
  ⟨h.f, h.below.trans (k.mono h.size), Nat.le_trans h.size k.size⟩
theorem Mine.drewN {B : Nat} {w0 w : World} {F : Nat → Prop} (h : Mine B w0 w F) (n : Nat) : Mine B w0 (w.drewN n) F := h.nextB (below_drewN (Below.refl _ _) n)
theorem Mine.new {w w' : World} {F : Nat → Prop} (hF : ∀ k, F k → w.heap.size ≤ k) (hB : Below w.heap.size w w') : Mine w.heap.size w w' F := ⟨hF, hB, hB.size⟩
/-- what lies apart, and behind B -/
structure Sides (B : Nat) (w0 w : World) (F G : Nat → Prop) : Prop where
  apart : ∀ k, F k → ¬ G k
  f : ∀ k, F k → B ≤ k
  g : ∀ k, G k → B ≤ k
  below : Below B w0 w
  size : B ≤ w.heap.size
theorem Sides.nextB {B : Nat} {w0 w w' : World} {F G : Nat → Prop} (h : Sides B w0 w F G) (k : Below w.heap.size w w') : Sides B w0 w' F G :=
  ⟨h.apart, h.f, h.g, h.below.trans (k.mono h.size), Nat.le_trans h.size k.size⟩
theorem Sides.drewN {B : Nat} {w0 w : World} {F G : Nat → Prop} (h : Sides B w0 w F G) (n : Nat) : Sides B w0 (w.drewN n) F G := h.nextB (below_drewN (Below.refl _ _) n)
/-- a cell of another's -/
theorem Moved.cell {F F' : Nat → Prop} {w w' : World} (h : Moved F F' w w') {p : Addr} {v : Value} (hc : w.cell? p = some v) (hx : ¬ F p.block) : w'.cell? p = some v := h.kept.old hc hx
/-- a step of the first, of the second -/
theorem Sides.one {B : Nat} {w0 w w' : World} {F F' G : Nat → Prop} (h : Sides B w0 w F G) (hlt : ∀ k, G k → k < w.heap.size) (hM : Moved F F' w w') : Sides B w0 w' F' G := by
  refine ⟨fun k hk hg => ?_, fun k hk => ?_, h.g, h.below.trans (hM.kept.below h.size h.f), Nat.le_trans h.size hM.kept.size⟩
  · exact h.apart k (hM.old k (hlt k hg) hk) hg
  · rcases Nat.lt_or_ge k w.heap.size with l | l
    · exact h.f k (hM.old k l hk)
    · exact Nat.le_trans h.size l
theorem Sides.two {B : Nat} {w0 w w' : World} {F G G' : Nat → Prop} (h : Sides B w0 w F G) (hlt : ∀ k, F k → k < w.heap.size) (hM : Moved G G' w w') : Sides B w0 w' F G' := by
  refine ⟨fun k hk hg => ?_, h.f, fun k hk => ?_, h.below.trans (hM.kept.below h.size h.g), Nat.le_trans h.size hM.kept.size⟩
  · exact h.apart k hk (hM.old k (hlt k hk) hg)
  · rcases Nat.lt_or_ge k w.heap.size with l | l
    · exact h.g k (hM.old k l hk)
    · exact Nat.le_trans h.size l
end Go.Proofs.YtaihcceobnfmhaaDoor

namespace Go.Proofs.YtaihcceobnfmhaaDoor
open Go.RowKit

/-- tags anew, where the part t has become G -/
noncomputable def retag (tag : Nat → Nat) (t : Nat) (G : Nat → Prop) : Nat → Nat := fun k => open Classical in if G k then t else if tag k = t then 0 else tag k
theorem retag_is {tag : Nat → Nat} {t : Nat} {G : Nat → Prop} {k : Nat} (h : G k) : retag tag t G k = t := if_pos h
theorem retag_not {tag : Nat → Nat} {t : Nat} {G : Nat → Prop} {k : Nat} (h : ¬ G k) (n : tag k ≠ t) : retag tag t G k = tag k := by unfold retag; rw [if_neg h, if_neg n]
theorem retag_iff {tag : Nat → Nat} {t : Nat} {G : Nat → Prop} (ht : t ≠ 0) (k : Nat) : retag tag t G k = t ↔ G k := by
  refine ⟨fun e => ?_, retag_is⟩
  by_cases g : G k
  · exact g
  · unfold retag at e
    rw [if_neg g] at e
    split at e
    · exact absurd e.symm ht
    · rename_i n; exact absurd e n
theorem retag_other {tag : Nat → Nat} {t u : Nat} {w w' : World} {G : Nat → Prop} (hM : Moved (fun k => tag k = t) G w w') (hl : ∀ k, tag k ≠ 0 → k < w.heap.size) (ut : u ≠ t) (u0 : u ≠ 0) {k : Nat} (h : tag k = u) : retag tag t G k = u := by
  have n : tag k ≠ t := by rw [h]; exact ut
  rw [retag_not (fun g => n (hM.old k (hl k (by rw [h]; exact u0)) g)) n, h]
theorem retag_back {tag : Nat → Nat} {t u : Nat} {G : Nat → Prop} (ut : u ≠ t) (u0 : u ≠ 0) {k : Nat} (h : retag tag t G k = u) : tag k = u := by
  unfold retag at h
  split at h
  · exact absurd h.symm ut
  · split at h
    · exact absurd h.symm u0
    · exact h
theorem retag_iff' {tag : Nat → Nat} {t u : Nat} {w w' : World} {G : Nat → Prop} (hM : Moved (fun k => tag k = t) G w w') (hl : ∀ k, tag k ≠ 0 → k < w.heap.size) (ut : u ≠ t) (u0 : u ≠ 0) : (fun k => retag tag t G k = u) = (fun k => tag k = u) := by
  funext k
  exact propext ⟨retag_back ut u0, retag_other hM hl ut u0⟩
theorem retag_moved {tag : Nat → Nat} {t : Nat} {w w' : World} {F G : Nat → Prop} (hF : ∀ k, F k ↔ tag k ≠ 0) (hM : Moved (fun k => tag k = t) G w w') (t0 : t ≠ 0) : Moved F (fun k => retag tag t G k ≠ 0) w w' := by
  refine ⟨hM.kept.mono fun k _ e => (hF k).2 (by rw [e]; exact t0), fun k hk h => ?_⟩
  by_cases g : G k
  · exact (hF k).2 (by rw [hM.old k hk g]; exact t0)
  · unfold retag at h
    rw [if_neg g] at h
    split at h
    · exact absurd rfl h
    · exact (hF k).2 h
end Go.Proofs.YtaihcceobnfmhaaDoor

namespace Go.Proofs.YtaihcceobnfmhaaDoor
open Go.RowKit

theorem owner_yes (o : Int) (h0 : 0 ≤ o) (h6 : o < 6) (w : World) :
    Calls Tryd.prog 37 #[.int .i64 o] w fun e w' => e = .returned (.bool true) ∧ w' = w := by
  go_enter Tryd.func37, Tryd.ntmps37
  go_wp2
  go_ret
  exact ⟨rfl, rfl⟩
theorem owner_no (o : Int) (h : ¬ (0 ≤ o ∧ o < 6)) (w : World) :
    Calls Tryd.prog 37 #[.int .i64 o] w fun e w' => e = .returned (.bool false) ∧ w' = w := by
  by_cases h0 : 0 ≤ o
  · have h6 : ¬ o < 6 := by omega
    clear h
    go_enter Tryd.func37, Tryd.ntmps37
    go_wp2
    go_ret
    exact ⟨rfl, rfl⟩
  · clear h
    go_enter Tryd.func37, Tryd.ntmps37
    go_wp2
    go_ret
    exact ⟨rfl, rfl⟩
theorem some_yes (n : Int) (h0 : 1 ≤ n) (h1 : n ≤ 1125899906842624) (w : World) :
    Calls Tryd.prog 65 #[.int .i64 n] w fun e w' => e = .returned (.bool true) ∧ w' = w := by
  go_enter Tryd.func65, Tryd.ntmps65
  go_wp2
  go_ret
  exact ⟨rfl, rfl⟩
theorem some_no (n : Int) (h : ¬ (1 ≤ n ∧ n ≤ 1125899906842624)) (w : World) :
    Calls Tryd.prog 65 #[.int .i64 n] w fun e w' => e = .returned (.bool false) ∧ w' = w := by
  by_cases h0 : 1 ≤ n
  · have h1 : ¬ n ≤ 1125899906842624 := by omega
    clear h
    go_enter Tryd.func65, Tryd.ntmps65
    go_wp2
    go_ret
    exact ⟨rfl, rfl⟩
  · clear h
    go_enter Tryd.func65, Tryd.ntmps65
    go_wp2
    go_ret
    exact ⟨rfl, rfl⟩
theorem amount_yes (n : Int) (h0 : 0 ≤ n) (h1 : n ≤ 1125899906842624) (w : World) :
    Calls Tryd.prog 44 #[.int .i64 n] w fun e w' => e = .returned (.bool true) ∧ w' = w := by
  go_enter Tryd.func44, Tryd.ntmps44
  go_wp2
  go_ret
  exact ⟨rfl, rfl⟩
theorem amount_no (n : Int) (h : ¬ (0 ≤ n ∧ n ≤ 1125899906842624)) (w : World) :
    Calls Tryd.prog 44 #[.int .i64 n] w fun e w' => e = .returned (.bool false) ∧ w' = w := by
  by_cases h0 : 0 ≤ n
  · have h1 : ¬ n ≤ 1125899906842624 := by omega
    clear h
    go_enter Tryd.func44, Tryd.ntmps44
    go_wp2
    go_ret
    exact ⟨rfl, rfl⟩
  · clear h
    go_enter Tryd.func44, Tryd.ntmps44
    go_wp2
    go_ret
    exact ⟨rfl, rfl⟩
end Go.Proofs.YtaihcceobnfmhaaDoor

namespace Go.Proofs.YtaihcceobnfmhaaDoor

/-- a sentinel's value: a pointer to an errors.errorString -/
abbrev sent (a : Addr) : Value := .iface 122 (.pointer (some a))
theorem drew_cell (w : World) (n : Nat) (a : Addr) : (w.drewN n).cell? a = w.cell? a := by simp
end Go.Proofs.YtaihcceobnfmhaaDoor
