/-
  Stakes, plainly: what each act makes of all together.
-/
import Derived.Test.YtlhffdmhbplpjabDoorStakeMath
namespace Go.Proofs.YtlhffdmhbplpjabDoor

theorem St.join_T {x : St} {o n : Int} (h : x.joinC o n = 0) : (x.join o n).T = x.T + n := by rw [St.join_yes h]; rfl
theorem St.take_T {x : St} {o n : Int} (h : x.takeC o n = 0) : (x.take o n).T = x.T - n := by rw [St.take_yes h]; rfl
theorem St.add_T {x : St} {n : Int} (h : x.addC n = 0) : (x.add n).T = x.T + n := by rw [St.add_yes h]
theorem St.leave_T (x : St) (o : Int) : (x.leave o).T = x.T - x.leaveN o := by
  by_cases h : x.leaveC o = 0
  · rw [(St.leave_yes h).1, (St.leave_yes h).2]; rfl
  · rw [(St.leave_no rfl h).1, (St.leave_no rfl h).2]; omega
theorem St.slash_T (x : St) (p : Int) : (x.slash p).T = x.T - x.slashN p := rfl
theorem Sk.total_pool {S : Sk} {b : Int} (hb : Bk b) (x : St) : (⟨S.R, set1 S.P b x, S.K, S.W⟩ : Sk).total = S.total - (S.P b).T + x.T := by
  have h : b = 0 ∨ b = 1 ∨ b = 2 := by omega
  unfold Sk.total
  rcases h with rfl | rfl | rfl <;> (simp only [set1]; simp; omega)
theorem Sk.reg_total {S : Sk} (b : Int) : (S.reg b).total = S.total := by
  unfold Sk.reg
  split <;> rfl
theorem Sk.Ok.join_total {S : Sk} (h : S.Ok) {o b n : Int} (hc : S.joinC o b n = 0) : (S.join o b n).total = S.total + n := by
  unfold Sk.joinC at hc
  by_cases hr : S.R b
  · rw [if_pos hr] at hc
    unfold Sk.join
    rw [if_pos hr, Sk.total_pool (h.rin b hr), St.join_T hc]; omega
  · rw [if_neg hr] at hc; omega
theorem Sk.join_same {S : Sk} {o b n : Int} (hc : S.joinC o b n ≠ 0) : S.join o b n = S := by
  unfold Sk.joinC at hc
  unfold Sk.join
  by_cases hr : S.R b
  · rw [if_pos hr] at hc ⊢
    rw [St.join_no rfl hc, set1_id S.P b _ rfl]
  · rw [if_neg hr]
theorem Sk.Ok.add_total {S : Sk} (h : S.Ok) {b n : Int} (hc : S.addC b n = 0) : (S.add b n).total = S.total + n := by
  unfold Sk.addC at hc
  by_cases hr : S.R b
  · rw [if_pos hr] at hc
    unfold Sk.add
    rw [if_pos hr, Sk.total_pool (h.rin b hr), St.add_T hc]; omega
  · rw [if_neg hr] at hc; omega
theorem Sk.add_same {S : Sk} {b n : Int} (hc : S.addC b n ≠ 0) : S.add b n = S := by
  unfold Sk.addC at hc
  unfold Sk.add
  by_cases hr : S.R b
  · rw [if_pos hr] at hc ⊢
    rw [St.add_no rfl hc, set1_id S.P b _ rfl]
  · rw [if_neg hr]
theorem sumK_set2 {K : List (Int × Int)} (hn : K.Nodup) (W : Int → Int → St) (b c : Int) (x : St) (h0 : (b, c) ∉ K → W b c = e0) : sumK (keyed2 K b c) (fun i j => (set2 W b c x i j).T) = sumK K (fun i j => (W i j).T) - (W b c).T + x.T := by
  unfold keyed2
  split
  · rename_i h
    have := sumK_one (f := fun i j => (W i j).T) (g := fun i j => (set2 W b c x i j).T) b c K hn h (fun k _ ne => by
      show (set2 W b c x k.1 k.2).T = _
      rw [set2_other _ _ _ _ _ _ ne])
    rw [this]
    show _ - _ + (set2 W b c x b c).T = _
    rw [set2_same]
  · rename_i h
    rw [sumK_append, sumK_congr (f := fun i j => (set2 W b c x i j).T) (g := fun i j => (W i j).T) K (fun k hk => by
      show (set2 W b c x k.1 k.2).T = _
      rw [set2_other _ _ _ _ _ _ (fun e => h (e ▸ hk))])]
    show _ + ((set2 W b c x b c).T + 0) = _
    rw [set2_same, h0 h]
    show _ + (x.T + 0) = _ - (0 : Int) + x.T
    omega
theorem Sk.Ok.leave_total {S : Sk} (h : S.Ok) (o b n c : Int) : (S.leave o b n c).total = S.total := by
  by_cases hc : S.leaveC o b n c = 0
  · obtain ⟨hr, _, ht, hj⟩ := Sk.leaveC_zero hc
    have e : S.leave o b n c = ⟨S.R, set1 S.P b ((S.P b).take o n), keyed2 S.K b c, set2 S.W b c ((S.W b c).join o n)⟩ := if_pos hc
    have t := Sk.total_pool (S := ⟨S.R, S.P, keyed2 S.K b c, set2 S.W b c ((S.W b c).join o n)⟩) (h.rin b hr) ((S.P b).take o n)
    have u := sumK_set2 h.knd S.W b c ((S.W b c).join o n) (h.wout b c)
    rw [e]
    refine t.trans ?_
    have v : (⟨S.R, S.P, keyed2 S.K b c, set2 S.W b c ((S.W b c).join o n)⟩ : Sk).total = (S.P 0).T + (S.P 1).T + (S.P 2).T + sumK (keyed2 S.K b c) (fun i j => (set2 S.W b c ((S.W b c).join o n) i j).T) := rfl
    rw [v, u, St.join_T hj, St.take_T ht]
    unfold Sk.total
    show _ - (S.P b).T + _ = _
    omega
  · have e : S.leave o b n c = S := if_neg hc
    rw [e]
theorem sumK_split (K : List (Int × Int)) (f f' g : Int → Int → Int) (h : ∀ b c, f' b c = f b c - g b c) : sumK K f' = sumK K f - sumK K g := by
  have := sumK_add f' g K
  rw [sumK_congr (f := fun b c => f' b c + g b c) (g := f) K (fun k _ => by show f' k.1 k.2 + g k.1 k.2 = f k.1 k.2; rw [h]; omega)] at this
  omega
theorem Sk.free_total (S : Sk) (o c : Int) : (S.free o c).total = S.total - S.freeN o c := by
  unfold Sk.free Sk.freeN
  split
  · omega
  · have := sumK_split S.K (fun b' c' => (S.W b' c').T) (fun b' c' => (if c' + 2 < c then (S.W b' c').leave o else S.W b' c').T) (fun b' c' => if c' + 2 < c then (S.W b' c').leaveN o else 0) (fun b' c' => by
      split
      · exact St.leave_T _ _
      · omega)
    unfold Sk.total
    simp only []
    omega
theorem Sk.Ok.freeN_nn {S : Sk} (h : S.Ok) (o c : Int) : 0 ≤ S.freeN o c := by
  unfold Sk.freeN
  split
  · exact Int.le_refl _
  · refine sumK_nonneg _ fun k _ => ?_
    split
    · unfold St.leaveN
      split
      · exact (h.wok _ _).val0 o
      · exact Int.le_refl _
    · exact Int.le_refl _
theorem Sk.Ok.slash_total {S : Sk} (h : S.Ok) (b f p : Int) : (S.slash b f p).total = S.total - S.slashN b f p := by
  unfold Sk.slash Sk.slashN
  by_cases hc : S.slashC b p = 0
  · rw [if_pos hc, if_pos hc]
    have hr : S.R b = true := by
      unfold Sk.slashC at hc
      by_cases g : S.R b
      · exact g
      · rw [if_neg g] at hc; omega
    have t := Sk.total_pool (S := ⟨S.R, S.P, S.K, fun b' c' => if b' = b ∧ f ≤ c' then (S.W b' c').slash p else S.W b' c'⟩) (h.rin b hr) ((S.P b).slash p)
    refine t.trans ?_
    have u := sumK_split S.K (fun b' c' => (S.W b' c').T) (fun b' c' => (if b' = b ∧ f ≤ c' then (S.W b' c').slash p else S.W b' c').T) (fun b' c' => if b' = b ∧ f ≤ c' then (S.W b' c').slashN p else 0) (fun b' c' => by
      split
      · exact St.slash_T _ _
      · omega)
    have v : (⟨S.R, S.P, S.K, fun b' c' => if b' = b ∧ f ≤ c' then (S.W b' c').slash p else S.W b' c'⟩ : Sk).total = (S.P 0).T + (S.P 1).T + (S.P 2).T + sumK S.K (fun b' c' => (if b' = b ∧ f ≤ c' then (S.W b' c').slash p else S.W b' c').T) := rfl
    rw [v, u, St.slash_T]
    unfold Sk.total
    show _ - (S.P b).T + _ = _
    omega
  · rw [if_neg hc, if_neg hc]; omega
theorem Sk.Ok.slashN_nn {S : Sk} (h : S.Ok) (b f p : Int) : 0 ≤ S.slashN b f p := by
  unfold Sk.slashN
  split
  · have := ((h.pok b).slashN_bd p).1
    have := sumK_nonneg (f := fun b' c' => if b' = b ∧ f ≤ c' then (S.W b' c').slashN p else 0) S.K (fun k _ => by
      show 0 ≤ ite _ _ _
      split
      · exact ((h.wok _ _).slashN_bd p).1
      · exact Int.le_refl _)
    omega
  · exact Int.le_refl _
theorem Sk.slashN_err {S : Sk} {b f p : Int} (h : S.slashC b p ≠ 0) : S.slashN b f p = 0 := if_neg h
end Go.Proofs.YtlhffdmhbplpjabDoor
