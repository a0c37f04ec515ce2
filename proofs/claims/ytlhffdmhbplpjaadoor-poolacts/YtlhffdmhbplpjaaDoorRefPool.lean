/-
  The document's pool (bakehouseref1.Pool) by its contracts: what it tells.
-/
import Derived.Test.YtlhffdmhbplpjaaDoorKept
import Derived.Test.YtlhffdmhbplpjaaDoorRefIs
import Derived.Test.YtlhffdmhbplpjaaDoorProduct
import Derived.Test.YtlhffdmhbplpjaaDoorPoolMath
import Derived.Deep.QuietTactic
import Derived.BigQuiet
namespace Go.Proofs.YtlhffdmhbplpjaaDoor
open Go.RowKit

/-- the document's pool, as it lies in memory -/
structure RefAt (w : World) (b q : Nat) (x : St) : Prop where
  c0 : w.cell? ⟨b, 0, none⟩ = some (.int .i64 x.T)
  c1 : ∃ cap, w.cell? ⟨b, 1, none⟩ = some (.slice (some ⟨q, 0, none⟩) 6 cap)
  s : ∀ i : Nat, i < 6 → w.cell? ⟨q, i, none⟩ = some (.int .i64 (x.s i))
  f0 : w.frozen? ⟨b, 0, none⟩ = false
  fs : ∀ i : Nat, i < 6 → w.frozen? ⟨q, i, none⟩ = false
  ne : b ≠ q
theorem RefAt.drewN {w : World} {b q : Nat} {x : St} (h : RefAt w b q x) (n : Nat) : RefAt (w.drewN n) b q x := ⟨h.c0, h.c1, h.s, h.f0, h.fs, h.ne⟩

theorem RefAt.kept {w w' : World} {b q : Nat} {x : St} {X : List Nat} (h : RefAt w b q x) (hK : Kept X w w') (hb : b ∉ X) (hq : q ∉ X) : RefAt w' b q x where
  c0 := hK.old h.c0 hb
  c1 := h.c1.imp fun _ g => hK.old g hb
  s := fun i hi => hK.old (h.s i hi) hq
  f0 := by rw [hK.frozen (cell_lt h.c0) hb]; exact h.f0
  fs := fun i hi => by rw [hK.frozen (cell_lt (h.s i hi)) hq]; exact h.fs i hi
  ne := h.ne
theorem RefAt.lt {w : World} {b q : Nat} {x : St} (h : RefAt w b q x) : b < w.heap.size ∧ q < w.heap.size := ⟨cell_lt h.c0, cell_lt (h.s 0 (by omega))⟩

/-- the first so many owners' shares -/
def pre (x : St) : Nat → Int
  | 0 => 0
  | k + 1 => pre x k + x.s k
theorem pre_six (x : St) : pre x 6 = x.A := by simp [pre, St.A]
theorem pre_bd {x : St} (h : x.Ok) : ∀ k, k ≤ 6 → 0 ≤ pre x k ∧ pre x k ≤ x.A
  | 0, _ => ⟨Int.le_refl _, h.a0⟩
  | k + 1, hk => by
    have h0 := h.pos 0
    have h1 := h.pos 1
    have h2 := h.pos 2
    have h3 := h.pos 3
    have h4 := h.pos 4
    have h5 := h.pos 5
    have : k = 0 ∨ k = 1 ∨ k = 2 ∨ k = 3 ∨ k = 4 ∨ k = 5 := by omega
    rcases this with rfl | rfl | rfl | rfl | rfl | rfl <;> (simp [pre, St.A]; omega)

set_option maxRecDepth 100000 in
set_option maxHeartbeats 1000000 in
theorem ref_all (b q : Nat) (x : St) (hx : x.Ok) (w : World) (h : RefAt w b q x) :
    Calls Tryd.prog 46 #[.pointer (some ⟨b, 0, none⟩)] w fun e w' => e = .returned (.int .i64 x.A) ∧ w' = w := by
  obtain ⟨cap, c1⟩ := h.c1
  have a1 := hx.a1
  go_enter Tryd.func46, Tryd.ntmps46
  go_wp2
  go_loop [3, 4] (fun n i => ∃ k : Nat, k ≤ 6 ∧ i = .int .i64 k ∧ n = .int .i64 (pre x k)) (fun _ i => 6 - (intOf i).toNat)
  case atStart => exact ⟨0, by omega, rfl, rfl⟩
  case round =>
    obtain ⟨k, hk, rfl, rfl⟩ := hrel
    by_cases hlt : k < 6
    · have cs := h.s k hlt
      have hp := pre_bd hx k (by omega)
      have hq := pre_bd hx (k + 1) (by omega)
      have he : pre x (k + 1) = pre x k + x.s k := rfl
      rw [he] at hq
      clear he
      go_wp2
      go_round
      case rel => exact ⟨k + 1, by omega, by go_num, rfl⟩
      case measure => simp [intOf]; omega
    · obtain rfl : k = 6 := by omega
      have he := hide (pre_six x)
      go_wp2
      go_ret
      exact ⟨ret_int he.out, rfl⟩

theorem ref_shares (b q : Nat) (x : St) (hx : x.Ok) (o : Int) (w : World) (h : RefAt w b q x) :
    Calls Tryd.prog 47 #[.pointer (some ⟨b, 0, none⟩), .int .i64 o] w fun e w' => e = .returned (.int .i64 (x.s o)) ∧ w' = w := by
  obtain ⟨cap, c1⟩ := h.c1
  by_cases ho : 0 ≤ o ∧ o < 6
  · obtain ⟨k, rfl⟩ : ∃ k : Nat, o = k := ⟨o.toNat, by omega⟩
    have cs := h.s k (by omega)
    have is := isOwner_yes k ho.1 ho.2
    have hk : k < 6 := by omega
    clear ho
    go_enter Tryd.func47, Tryd.ntmps47
    go_wp2_with (go_at_call 80; refine (is _).mono ?_; rintro e w' ⟨rfl, rfl⟩)
    go_ret
    exact ⟨rfl, rfl⟩
  · have is := isOwner_no o ho
    have ho' := hide (hx.out o (by omega))
    clear ho
    go_enter Tryd.func47, Tryd.ntmps47
    go_wp2_with (go_at_call 80; refine (is _).mono ?_; rintro e w' ⟨rfl, rfl⟩)
    go_ret
    exact ⟨ret_int ho'.out.symm, rfl⟩

/-- what a value's product asks -/
theorem val_amounts {x : St} (hx : x.Ok) (hA : 0 < x.A) (o : Int) : Amounts (x.s o) x.T x.A ∧ x.s o * x.T / x.A ≤ 1125899906842624 := by
  have h1 := hx.le_all o
  have h2 := hx.a1
  refine ⟨⟨hx.pos o, by omega, hx.t0, hx.t1, by omega, h2⟩, ?_⟩
  have h3 := hx.val1 o
  rw [St.val_some o hA] at h3
  have := hx.t1
  omega

set_option maxRecDepth 100000 in
set_option maxHeartbeats 1000000 in
theorem ref_value (b q : Nat) (x : St) (hx : x.Ok) (o : Int) (w : World) (h : RefAt w b q x) :
    Calls Tryd.prog 48 #[.pointer (some ⟨b, 0, none⟩), .int .i64 o] w fun e w' => e = .returned (.int .i64 (x.val o)) ∧ ∃ n, w' = w.drewN n := by
  have c0 := h.c0
  by_cases hA : x.A = 0
  · have tA : (x.A == 0) = true := by simp [hA]
    have hv := hide (St.val_none o hA)
    clear hA
    go_enter Tryd.func48, Tryd.ntmps48
    go_wp2_with (go_at_call 46; refine (ref_all b q x hx _ h).mono ?_; rintro e w' ⟨rfl, rfl⟩)
    go_ret
    exact ⟨ret_int hv.out.symm, 0, rfl⟩
  · have tA : (x.A == 0) = false := by simp [hA]
    have hA : 0 < x.A := by have := hx.a0; omega
    have hv := hide (St.val_some o hA)
    obtain ⟨hm, hq⟩ := val_amounts hx hA o
    have P := product_yes _ _ _ hm hq
    clear hm hq hA
    go_enter Tryd.func48, Tryd.ntmps48
    go_wp2_with (go_at_call 46; refine (ref_all b q x hx _ h).mono ?_; rintro e w' ⟨rfl, rfl⟩)
    go_quiet ((first | (go_at_call 46; exact Calls.quiet_of_same (ref_all b q x hx _ (h.drewN _))) | (go_at_call 47; exact Calls.quiet_of_same (ref_shares b q x hx o _ (h.drewN _))) | (go_at_call 74; exact Calls.quiet_of_same (P _))))
    go_wp2
    go_ret
    exact ⟨ret_int hv.out.symm, _, rfl⟩
end Go.Proofs.YtlhffdmhbplpjaaDoor
