/-
  Pools, plainly: an owner that is alone in a pool has all of it.
-/
import Derived.Test.YtlhffdmhbplpjaaDoorPoolFairMath
namespace Go.Proofs.YtlhffdmhbplpjaaDoor

/-- the owner with the number 2 has all shares -/
structure Alone (x : St) : Prop where
  ok : x.Ok
  pos : 0 < x.s 2
  all : x.A = x.s 2
theorem st0_ok : (⟨0, fun _ => 0⟩ : St).Ok := ⟨by decide, by decide, fun _ => Int.le_refl _, fun _ _ => rfl, by decide, fun _ => rfl⟩
theorem alone_new (n : Int) (n1 : 1 ≤ n) (nM : n ≤ 1125899906842624) : (⟨0, fun _ => 0⟩ : St).joinC 2 n = 0 ∧ Alone ((⟨0, fun _ => 0⟩ : St).join 2 n) := by
  have hA : (⟨0, fun _ => 0⟩ : St).A = 0 := rfl
  have hK : (⟨0, fun _ => 0⟩ : St).joinK n = n := St.joinK_none hA
  have hc : (⟨0, fun _ => 0⟩ : St).joinC 2 n = 0 := by
    refine St.joinC_fine ⟨by omega, by omega, n1, nM⟩ ?_ ?_ ?_ ?_ ?_
    · rw [hA]; omega
    · omega
    · show 0 + n ≤ _; omega
    · rw [hA]; omega
    · omega
  refine ⟨hc, st0_ok.join 2 n, ?_, ?_⟩
  · rw [St.join_yes hc, St.set_same, hK]; show 0 < 0 + n; omega
  · rw [St.join_yes hc, St.set_same, St.set_A _ _ _ _ (by omega) (by omega), hK, hA]; show (0 : Int) - 0 + (0 + n) = 0 + n; omega
theorem Alone.val {x : St} (h : Alone x) : x.val 2 = x.T := by
  have hp := h.pos
  rw [St.val_some 2 (by rw [h.all]; exact hp), h.all, Int.mul_ediv_cancel_left _ (by omega)]
theorem Alone.add {x : St} (h : Alone x) (n : Int) : Alone (x.add n) := by
  refine ⟨h.ok.add n, ?_, ?_⟩
  · unfold St.add; split
    · exact h.pos
    · exact h.pos
  · unfold St.add; split
    · exact h.all
    · exact h.all
theorem Alone.slash {x : St} (h : Alone x) (p : Int) : Alone (x.slash p) := ⟨h.ok.slash p, h.pos, h.all⟩
theorem Alone.zero {x : St} (h : Alone x) (o : Int) (ho : o ≠ 2) : x.s o = 0 := by
  have h1 := h.ok.two_le o 2 ho
  have h2 := h.ok.pos o
  have h3 := h.all
  omega
theorem Alone.back {x : St} (h : Alone x) (m : Int) (hc : x.joinC 4 m = 0) :
    (x.join 4 m).leaveC 4 = 0 ∧ (x.join 4 m).leaveN 4 ≤ m ∧ ((x.join 4 m).leave 4).T = x.T + m - (x.join 4 m).leaveN 4 ∧ Alone ((x.join 4 m).leave 4) := by
  have hz := h.zero 4 (by omega)
  have hok := h.ok.join 4 m
  obtain ⟨⟨_, _, m1, mM⟩, _, _, _, _, k0⟩ := St.joinC_zero hc
  have hk := h.ok.joinK0 (n := m) (by omega)
  have e4 : (x.join 4 m).s 4 = x.joinK m := by rw [St.join_yes hc, St.set_same, hz]; omega
  have e2 : (x.join 4 m).s 2 = x.s 2 := by rw [St.join_yes hc, St.set_other _ _ _ _ _ (by omega)]
  have eT : (x.join 4 m).T = x.T + m := by rw [St.join_yes hc]; rfl
  have eA : (x.join 4 m).A = x.A + x.joinK m := by rw [St.join_yes hc, St.set_A _ _ _ _ (by omega) (by omega), hz]; omega
  have hm := h.ok.join_mine 4 m hc
  have hv : x.val 4 = 0 := by
    have hp := h.pos
    rw [St.val_some 4 (by rw [h.all]; exact hp), hz, Int.zero_mul, Int.zero_ediv]
  have lc : (x.join 4 m).leaveC 4 = 0 := St.leaveC_fine ⟨by omega, by omega⟩ (by rw [e4]; exact k0)
  obtain ⟨l1, l2⟩ := St.leave_yes lc
  refine ⟨lc, by rw [l2]; omega, by rw [l1, l2, St.set_T, eT], hok.leave 4, ?_, ?_⟩
  · rw [l1, St.set_other _ _ _ _ _ (by omega), e2]; exact h.pos
  · rw [l1, St.set_A _ _ _ _ (by omega) (by omega), St.set_other _ _ _ _ _ (by omega), e2, e4, eA, h.all]; omega
theorem Alone.out {x : St} (h : Alone x) : x.leaveC 2 = 0 ∧ x.leaveN 2 = x.T ∧ (x.leave 2).T = 0 ∧ (x.leave 2).A = 0 := by
  have hp := h.pos
  have lc : x.leaveC 2 = 0 := St.leaveC_fine ⟨by omega, by omega⟩ (by omega)
  obtain ⟨l1, l2⟩ := St.leave_yes lc
  refine ⟨lc, by rw [l2, h.val], by rw [l1, St.set_T, h.val]; omega, ?_⟩
  rw [l1, St.set_A _ _ _ _ (by omega) (by omega), h.all]; omega
end Go.Proofs.YtlhffdmhbplpjaaDoor
