/-
  The document's pool (bakehouseref1.Pool) by its contracts: joining, taking, a new one.
-/
import Derived.Test.YtaihcceobnfmhaaGreatDoorRefNewX
namespace Go.Proofs.YtaihcceobnfmhaaGreatDoor
open Go.RowKit

theorem RefAt.drew {b q : Nat} {x : St} {w w' : World} (h : RefAt w' b q x ∧ Kept [b, q] w w') : RefAt w'.drew b q x ∧ Kept [b, q] w w'.drew := ⟨⟨h.1.c0, h.1.c1, h.1.s, h.1.f0, h.1.fs, h.1.ne⟩, h.2.drew⟩
theorem RefAt.from {b q : Nat} {x : St} {w w' : World} {m : Nat} (h : RefAt w' b q x ∧ Kept [b, q] (w.drewN m) w') : RefAt w' b q x ∧ Kept [b, q] w w' := ⟨h.1, ((Kept.refl _ _).drewN m).trans h.2⟩

set_option maxRecDepth 100000 in
set_option maxHeartbeats 1000000 in
theorem ref_join_bad (b q : Nat) (x : St) (o n : Int) (hb : ¬ Act1 o n) (w : World) (h : RefAt w b q x) :
    Calls Tryz.prog 124 #[.pointer (some ⟨b, 0, none⟩), .int .i64 o, .int .i64 n] w fun e w' => e = .returned (.int .i64 (x.joinC o n)) ∧ RefAt w' b q (x.join o n) ∧ Kept [b, q] w w' := by
  have e1 := hide (St.joinC_bad (x := x) hb)
  unfold Act1 at hb
  by_cases ho : 0 ≤ o ∧ o < 6
  · have I := isOwner_yes o ho.1 ho.2
    by_cases h1 : 1 ≤ n
    · have h2 : 1125899906842624 < n := by omega
      clear hb ho
      go_enter Tryz.func124, Tryz.ntmps124
      go_wp2_with (go_at_call 130; refine (I _).mono ?_; rintro e w' ⟨rfl, rfl⟩)
      go_ret
      exact ⟨ret_int e1.out.symm, ref_stay h (St.join_no e1.out (by omega))⟩
    · clear hb ho
      go_enter Tryz.func124, Tryz.ntmps124
      go_wp2_with (go_at_call 130; refine (I _).mono ?_; rintro e w' ⟨rfl, rfl⟩)
      go_ret
      exact ⟨ret_int e1.out.symm, ref_stay h (St.join_no e1.out (by omega))⟩
  · have I := isOwner_no o ho
    clear hb ho
    go_enter Tryz.func124, Tryz.ntmps124
    go_wp2_with (go_at_call 130; refine (I _).mono ?_; rintro e w' ⟨rfl, rfl⟩)
    go_ret
    exact ⟨ret_int e1.out.symm, ref_stay h (St.join_no e1.out (by omega))⟩

set_option maxRecDepth 100000 in
set_option maxHeartbeats 2000000 in
theorem ref_join (b q : Nat) (x : St) (hx : x.Ok) (o n : Int) (w : World) (h : RefAt w b q x) :
    Calls Tryz.prog 124 #[.pointer (some ⟨b, 0, none⟩), .int .i64 o, .int .i64 n] w fun e w' => e = .returned (.int .i64 (x.joinC o n)) ∧ RefAt w' b q (x.join o n) ∧ Kept [b, q] w w' := by
  by_cases hb : Act1 o n
  · have c0 := h.c0
    obtain ⟨cap, c1⟩ := h.c1
    have f0 := h.f0
    have t0 := hx.t0
    have t1 := hx.t1
    have a0 := hx.a0
    have a1 := hx.a1
    obtain ⟨o0, o6, n1, nM⟩ := hb
    have hb : Act1 o n := ⟨o0, o6, n1, nM⟩
    have I := isOwner_yes o o0 o6
    obtain ⟨k, rfl⟩ : ∃ k : Nat, o = k := ⟨o.toNat, by omega⟩
    have hk : k < 6 := by omega
    have cs := h.s k hk
    have fs := h.fs k hk
    have ne := h.ne
    have s0 := hx.pos k
    have s1 := hx.le_all k
    by_cases hA : x.A = 0
    · have hT := hx.none hA
      have eK := St.joinK_none (x := x) (n := n) hA
      have e1 := hide (St.joinC_fine (x := x) hb (by omega) (by omega) (by omega) (by omega) (by omega))
      have e2 := hide (St.join_yes e1.out)
      rw [eK] at e2
      have tA : ¬ 0 < x.A := by omega
      have tA2 : x.A + n ≤ 1125899906842624 := by omega
      have tT : x.T + n ≤ 1125899906842624 := by omega
      have tn : (n == 0) = false := by simp; omega
      clear hA hT eK hb
      go_enter Tryz.func124, Tryz.ntmps124
      go_wp2_with (first | (go_at_call 130; refine (I _).mono ?_; rintro e w' ⟨rfl, rfl⟩) | (go_at_call 171; refine (ref_all b q x hx _ h).mono ?_; rintro e w' ⟨rfl, rfl⟩))
      go_region
      go_wp2
      go_ret
      exact ⟨ret_int e1.out.symm, RefAt.as (RefAt.drew (h.wrote k hk _ _)) e2.out⟩
    · have hA0 : 0 < x.A := by omega
      have eK := St.joinK_some (x := x) (n := n) hA
      by_cases hT : x.T = 0
      · have e1 := hide (St.joinC_gone hb hA0 hT)
        have e2 := hide (St.join_no e1.out (by omega))
        have tT : (x.T == 0) = true := by simp [hT]
        clear hA hT eK hb
        go_enter Tryz.func124, Tryz.ntmps124
        go_wp2_with (first | (go_at_call 130; refine (I _).mono ?_; rintro e w' ⟨rfl, rfl⟩) | (go_at_call 171; refine (ref_all b q x hx _ h).mono ?_; rintro e w' ⟨rfl, rfl⟩) | (go_at_call 172; refine (P _).mono ?_; rintro e w' ⟨rfl, rfl⟩))
        go_ret
        exact ⟨ret_int e1.out.symm, ref_stay h e2.out⟩
      · have tT : (x.T == 0) = false := by simp [hT]
        have hT0 : 0 < x.T := by omega
        have hM : Amounts n x.A x.T := ⟨by omega, nM, a0, a1, by omega, t1⟩
        have q0 := quo_nonneg (n * x.A) x.T (Int.mul_nonneg (by omega) a0) (by omega)
        by_cases hq : n * x.A / x.T ≤ 1125899906842624
        · have P := product_yes _ _ _ hM hq
          by_cases h3 : x.T + n ≤ 1125899906842624
          · by_cases h4 : x.A + n * x.A / x.T ≤ 1125899906842624
            · by_cases h5 : n * x.A / x.T = 0
              · have e1 := hide (St.joinC_small (x := x) hb (by omega) h3 (by omega) (by omega))
                have e2 := hide (St.join_no e1.out (by omega))
                have t5 : (n * x.A / x.T == 0) = true := by simp [h5]
                clear hA hT eK hb h5 hM
                go_enter Tryz.func124, Tryz.ntmps124
                go_wp2_with (first | (go_at_call 130; refine (I _).mono ?_; rintro e w' ⟨rfl, rfl⟩) | (go_at_call 171; refine (ref_all b q x hx _ h).mono ?_; rintro e w' ⟨rfl, rfl⟩) | (go_at_call 172; refine (P _).mono ?_; rintro e w' ⟨rfl, rfl⟩))
                go_ret
                exact ⟨ret_int e1.out.symm, ref_stay h e2.out⟩
              · have e1 := hide (St.joinC_fine (x := x) hb (by omega) (by omega) h3 (by omega) (by omega))
                have e2 := hide (St.join_yes e1.out)
                rw [eK] at e2
                have t5 : (n * x.A / x.T == 0) = false := by simp [h5]
                clear hA hT eK hb h5 hM
                go_enter Tryz.func124, Tryz.ntmps124
                go_wp2_with (first | (go_at_call 130; refine (I _).mono ?_; rintro e w' ⟨rfl, rfl⟩) | (go_at_call 171; refine (ref_all b q x hx _ h).mono ?_; rintro e w' ⟨rfl, rfl⟩) | (go_at_call 172; refine (P _).mono ?_; rintro e w' ⟨rfl, rfl⟩))
                go_region
                go_wp2
                go_ret
                exact ⟨ret_int e1.out.symm, RefAt.as (RefAt.drew (h.wrote k hk _ _)) e2.out⟩
            · have e1 := hide (St.joinC_over (x := x) hb (by omega) (by omega))
              have e2 := hide (St.join_no e1.out (by omega))
              clear hA hT eK hb hM
              go_enter Tryz.func124, Tryz.ntmps124
              go_wp2_with (first | (go_at_call 130; refine (I _).mono ?_; rintro e w' ⟨rfl, rfl⟩) | (go_at_call 171; refine (ref_all b q x hx _ h).mono ?_; rintro e w' ⟨rfl, rfl⟩) | (go_at_call 172; refine (P _).mono ?_; rintro e w' ⟨rfl, rfl⟩))
              go_ret
              exact ⟨ret_int e1.out.symm, ref_stay h e2.out⟩
          · have e1 := hide (St.joinC_over (x := x) hb (by omega) (by omega))
            have e2 := hide (St.join_no e1.out (by omega))
            clear hA hT eK hb hM
            go_enter Tryz.func124, Tryz.ntmps124
            go_wp2_with (first | (go_at_call 130; refine (I _).mono ?_; rintro e w' ⟨rfl, rfl⟩) | (go_at_call 171; refine (ref_all b q x hx _ h).mono ?_; rintro e w' ⟨rfl, rfl⟩) | (go_at_call 172; refine (P _).mono ?_; rintro e w' ⟨rfl, rfl⟩))
            go_ret
            exact ⟨ret_int e1.out.symm, ref_stay h e2.out⟩
        · have P := product_no _ _ _ hM (by omega)
          have e1 := hide (St.joinC_over (x := x) hb (by omega) (by omega))
          have e2 := hide (St.join_no e1.out (by omega))
          clear hA hT eK hb hM hq
          go_enter Tryz.func124, Tryz.ntmps124
          go_wp2_with (first | (go_at_call 130; refine (I _).mono ?_; rintro e w' ⟨rfl, rfl⟩) | (go_at_call 171; refine (ref_all b q x hx _ h).mono ?_; rintro e w' ⟨rfl, rfl⟩) | (go_at_call 172; refine (P _).mono ?_; rintro e w' ⟨rfl, rfl⟩))
          go_ret
          exact ⟨ret_int e1.out.symm, ref_stay h e2.out⟩
  · exact ref_join_bad b q x o n hb w h
set_option maxRecDepth 100000 in
set_option maxHeartbeats 1000000 in
theorem ref_take_bad (b q : Nat) (x : St) (o n : Int) (hb : ¬ Act1 o n) (w : World) (h : RefAt w b q x) :
    Calls Tryz.prog 127 #[.pointer (some ⟨b, 0, none⟩), .int .i64 o, .int .i64 n] w fun e w' => e = .returned (.int .i64 (x.takeC o n)) ∧ RefAt w' b q (x.take o n) ∧ Kept [b, q] w w' := by
  have e1 := hide (St.takeC_bad (x := x) hb)
  unfold Act1 at hb
  by_cases ho : 0 ≤ o ∧ o < 6
  · have I := isOwner_yes o ho.1 ho.2
    by_cases h1 : 1 ≤ n
    · have h2 : 1125899906842624 < n := by omega
      clear hb ho
      go_enter Tryz.func127, Tryz.ntmps127
      go_wp2_with (go_at_call 130; refine (I _).mono ?_; rintro e w' ⟨rfl, rfl⟩)
      go_ret
      exact ⟨ret_int e1.out.symm, ref_stay h (St.take_no e1.out (by omega))⟩
    · clear hb ho
      go_enter Tryz.func127, Tryz.ntmps127
      go_wp2_with (go_at_call 130; refine (I _).mono ?_; rintro e w' ⟨rfl, rfl⟩)
      go_ret
      exact ⟨ret_int e1.out.symm, ref_stay h (St.take_no e1.out (by omega))⟩
  · have I := isOwner_no o ho
    clear hb ho
    go_enter Tryz.func127, Tryz.ntmps127
    go_wp2_with (go_at_call 130; refine (I _).mono ?_; rintro e w' ⟨rfl, rfl⟩)
    go_ret
    exact ⟨ret_int e1.out.symm, ref_stay h (St.take_no e1.out (by omega))⟩

set_option maxRecDepth 100000 in
set_option maxHeartbeats 2000000 in
theorem ref_take (b q : Nat) (x : St) (hx : x.Ok) (o n : Int) (w : World) (h : RefAt w b q x) :
    Calls Tryz.prog 127 #[.pointer (some ⟨b, 0, none⟩), .int .i64 o, .int .i64 n] w fun e w' => e = .returned (.int .i64 (x.takeC o n)) ∧ RefAt w' b q (x.take o n) ∧ Kept [b, q] w w' := by
  by_cases hb : Act1 o n
  · have c0 := h.c0
    obtain ⟨cap, c1⟩ := h.c1
    have f0 := h.f0
    have t0 := hx.t0
    have t1 := hx.t1
    have a0 := hx.a0
    have a1 := hx.a1
    obtain ⟨o0, o6, n1, nM⟩ := hb
    have hb : Act1 o n := ⟨o0, o6, n1, nM⟩
    have I := isOwner_yes o o0 o6
    obtain ⟨k, rfl⟩ : ∃ k : Nat, o = k := ⟨o.toNat, by omega⟩
    have hk : k < 6 := by omega
    have cs := h.s k hk
    have fs := h.fs k hk
    have ne := h.ne
    have s0 := hx.pos k
    have s1 := hx.le_all k
    by_cases hv : n ≤ x.val k
    · obtain ⟨hA, hT, hnT, k0, k1, hkk⟩ := hx.take_in n1 hv
      have hM : Amounts n x.A x.T := ⟨by omega, nM, a0, a1, by omega, t1⟩
      have hup : x.takeK n ≤ 1125899906842624 := by omega
      have q0 := quo_nonneg (n * x.A) x.T (Int.mul_nonneg (by omega) a0) (by omega)
      have r0 := Int.emod_nonneg (n * x.A) (show x.T ≠ 0 by omega)
      clear hkk
      by_cases hr : 0 < n * x.A % x.T
      · have eK : x.takeK n = n * x.A / x.T + 1 := upQ_rest _ _ hr
        have P := product_yes _ _ _ hM (by omega)
        by_cases h2 : x.takeK n = x.A
        · by_cases h3 : n < x.T
          · have e1 := hide (St.takeC_all hb hv h2 h3)
            have e2 := hide (St.take_no e1.out (by omega))
            rw [eK] at h2
            have t2 : (n * x.A / x.T + 1 == x.A) = true := by simp [h2]
            rw [eK] at k0 k1 hup
            clear eK hb h2 hM
            go_enter Tryz.func127, Tryz.ntmps127
            go_wp2_with (first | (go_at_call 130; refine (I _).mono ?_; rintro e w' ⟨rfl, rfl⟩) | (go_at_call 139; refine (ref_value b q x hx k _ h).mono ?_; rintro e w1 ⟨rfl, m, hw⟩; have hK := hide (by rw [hw]; exact (Kept.refl _ _).drewN m : Kept [b, q] _ w1); have h := (by rw [hw]; exact h.drewN m : RefAt w1 b q x); clear hw c0 c1 f0 cs fs; have c0 := h.c0; obtain ⟨cap, c1⟩ := h.c1; have f0 := h.f0; have cs := h.s k hk; have fs := h.fs k hk))
            go_quiet ((first | (go_at_call 171; exact Calls.quiet_of_same (ref_all b q x hx _ (h.drewN _))) | (go_at_call 172; exact Calls.quiet_of_same (P _))))
            go_wp2_with (go_at_call 171; refine (ref_all b q x hx _ (h.drewN _)).mono ?_; rintro e w' ⟨rfl, rfl⟩)
            go_ret
            exact ⟨ret_int e1.out.symm, RefAt.as ⟨h.drewN _, hK.out.drewN _⟩ e2.out⟩
          · have e1 := hide (St.takeC_fine hb hv (by omega))
            have e2 := hide (St.take_yes e1.out)
            rw [eK] at h2 e2
            have t2 : (n * x.A / x.T + 1 == x.A) = true := by simp [h2]
            rw [eK] at k0 k1 hup
            clear eK hb h2 hM
            go_enter Tryz.func127, Tryz.ntmps127
            go_wp2_with (first | (go_at_call 130; refine (I _).mono ?_; rintro e w' ⟨rfl, rfl⟩) | (go_at_call 139; refine (ref_value b q x hx k _ h).mono ?_; rintro e w1 ⟨rfl, m, hw⟩; have hK := hide (by rw [hw]; exact (Kept.refl _ _).drewN m : Kept [b, q] _ w1); have h := (by rw [hw]; exact h.drewN m : RefAt w1 b q x); clear hw c0 c1 f0 cs fs; have c0 := h.c0; obtain ⟨cap, c1⟩ := h.c1; have f0 := h.f0; have cs := h.s k hk; have fs := h.fs k hk))
            go_quiet ((first | (go_at_call 171; exact Calls.quiet_of_same (ref_all b q x hx _ (h.drewN _))) | (go_at_call 172; exact Calls.quiet_of_same (P _))))
            go_wp2_with (go_at_call 171; refine (ref_all b q x hx _ (h.drewN _)).mono ?_; rintro e w' ⟨rfl, rfl⟩)
            go_region
            go_wp2
            go_ret
            exact ⟨ret_int e1.out.symm, RefAt.as ⟨((h.drewN _).wrote k hk _ _).1, (hK.out.drewN _).trans ((h.drewN _).wrote k hk _ _).2⟩ e2.out⟩
        · have e1 := hide (St.takeC_fine hb hv (by omega))
          have e2 := hide (St.take_yes e1.out)
          rw [eK] at h2 e2
          have t2 : (n * x.A / x.T + 1 == x.A) = false := by simp [h2]
          rw [eK] at k0 k1 hup
          clear eK hb h2 hM
          go_enter Tryz.func127, Tryz.ntmps127
          go_wp2_with (first | (go_at_call 130; refine (I _).mono ?_; rintro e w' ⟨rfl, rfl⟩) | (go_at_call 139; refine (ref_value b q x hx k _ h).mono ?_; rintro e w1 ⟨rfl, m, hw⟩; have hK := hide (by rw [hw]; exact (Kept.refl _ _).drewN m : Kept [b, q] _ w1); have h := (by rw [hw]; exact h.drewN m : RefAt w1 b q x); clear hw c0 c1 f0 cs fs; have c0 := h.c0; obtain ⟨cap, c1⟩ := h.c1; have f0 := h.f0; have cs := h.s k hk; have fs := h.fs k hk))
          go_quiet ((first | (go_at_call 171; exact Calls.quiet_of_same (ref_all b q x hx _ (h.drewN _))) | (go_at_call 172; exact Calls.quiet_of_same (P _))))
          go_wp2_with (go_at_call 171; refine (ref_all b q x hx _ (h.drewN _)).mono ?_; rintro e w' ⟨rfl, rfl⟩)
          go_region
          go_wp2
          go_ret
          exact ⟨ret_int e1.out.symm, RefAt.as ⟨((h.drewN _).wrote k hk _ _).1, (hK.out.drewN _).trans ((h.drewN _).wrote k hk _ _).2⟩ e2.out⟩
      · have eK : x.takeK n = n * x.A / x.T := upQ_even _ _ hr
        have P := product_yes _ _ _ hM (by omega)
        by_cases h2 : x.takeK n = x.A
        · by_cases h3 : n < x.T
          · have e1 := hide (St.takeC_all hb hv h2 h3)
            have e2 := hide (St.take_no e1.out (by omega))
            rw [eK] at h2
            have t2 : (n * x.A / x.T == x.A) = true := by simp [h2]
            rw [eK] at k0 k1 hup
            clear eK hb h2 hM
            go_enter Tryz.func127, Tryz.ntmps127
            go_wp2_with (first | (go_at_call 130; refine (I _).mono ?_; rintro e w' ⟨rfl, rfl⟩) | (go_at_call 139; refine (ref_value b q x hx k _ h).mono ?_; rintro e w1 ⟨rfl, m, hw⟩; have hK := hide (by rw [hw]; exact (Kept.refl _ _).drewN m : Kept [b, q] _ w1); have h := (by rw [hw]; exact h.drewN m : RefAt w1 b q x); clear hw c0 c1 f0 cs fs; have c0 := h.c0; obtain ⟨cap, c1⟩ := h.c1; have f0 := h.f0; have cs := h.s k hk; have fs := h.fs k hk))
            go_quiet ((first | (go_at_call 171; exact Calls.quiet_of_same (ref_all b q x hx _ (h.drewN _))) | (go_at_call 172; exact Calls.quiet_of_same (P _))))
            go_wp2_with (go_at_call 171; refine (ref_all b q x hx _ (h.drewN _)).mono ?_; rintro e w' ⟨rfl, rfl⟩)
            go_ret
            exact ⟨ret_int e1.out.symm, RefAt.as ⟨h.drewN _, hK.out.drewN _⟩ e2.out⟩
          · have e1 := hide (St.takeC_fine hb hv (by omega))
            have e2 := hide (St.take_yes e1.out)
            rw [eK] at h2 e2
            have t2 : (n * x.A / x.T == x.A) = true := by simp [h2]
            rw [eK] at k0 k1 hup
            clear eK hb h2 hM
            go_enter Tryz.func127, Tryz.ntmps127
            go_wp2_with (first | (go_at_call 130; refine (I _).mono ?_; rintro e w' ⟨rfl, rfl⟩) | (go_at_call 139; refine (ref_value b q x hx k _ h).mono ?_; rintro e w1 ⟨rfl, m, hw⟩; have hK := hide (by rw [hw]; exact (Kept.refl _ _).drewN m : Kept [b, q] _ w1); have h := (by rw [hw]; exact h.drewN m : RefAt w1 b q x); clear hw c0 c1 f0 cs fs; have c0 := h.c0; obtain ⟨cap, c1⟩ := h.c1; have f0 := h.f0; have cs := h.s k hk; have fs := h.fs k hk))
            go_quiet ((first | (go_at_call 171; exact Calls.quiet_of_same (ref_all b q x hx _ (h.drewN _))) | (go_at_call 172; exact Calls.quiet_of_same (P _))))
            go_wp2_with (go_at_call 171; refine (ref_all b q x hx _ (h.drewN _)).mono ?_; rintro e w' ⟨rfl, rfl⟩)
            go_region
            go_wp2
            go_ret
            exact ⟨ret_int e1.out.symm, RefAt.as ⟨((h.drewN _).wrote k hk _ _).1, (hK.out.drewN _).trans ((h.drewN _).wrote k hk _ _).2⟩ e2.out⟩
        · have e1 := hide (St.takeC_fine hb hv (by omega))
          have e2 := hide (St.take_yes e1.out)
          rw [eK] at h2 e2
          have t2 : (n * x.A / x.T == x.A) = false := by simp [h2]
          rw [eK] at k0 k1 hup
          clear eK hb h2 hM
          go_enter Tryz.func127, Tryz.ntmps127
          go_wp2_with (first | (go_at_call 130; refine (I _).mono ?_; rintro e w' ⟨rfl, rfl⟩) | (go_at_call 139; refine (ref_value b q x hx k _ h).mono ?_; rintro e w1 ⟨rfl, m, hw⟩; have hK := hide (by rw [hw]; exact (Kept.refl _ _).drewN m : Kept [b, q] _ w1); have h := (by rw [hw]; exact h.drewN m : RefAt w1 b q x); clear hw c0 c1 f0 cs fs; have c0 := h.c0; obtain ⟨cap, c1⟩ := h.c1; have f0 := h.f0; have cs := h.s k hk; have fs := h.fs k hk))
          go_quiet ((first | (go_at_call 171; exact Calls.quiet_of_same (ref_all b q x hx _ (h.drewN _))) | (go_at_call 172; exact Calls.quiet_of_same (P _))))
          go_wp2_with (go_at_call 171; refine (ref_all b q x hx _ (h.drewN _)).mono ?_; rintro e w' ⟨rfl, rfl⟩)
          go_region
          go_wp2
          go_ret
          exact ⟨ret_int e1.out.symm, RefAt.as ⟨((h.drewN _).wrote k hk _ _).1, (hK.out.drewN _).trans ((h.drewN _).wrote k hk _ _).2⟩ e2.out⟩
    · have e1 := hide (St.takeC_short (x := x) hb (by omega))
      have e2 := hide (St.take_no e1.out (by omega))
      clear hb
      go_enter Tryz.func127, Tryz.ntmps127
      go_wp2_with (first | (go_at_call 130; refine (I _).mono ?_; rintro e w' ⟨rfl, rfl⟩) | (go_at_call 139; refine (ref_value b q x hx k _ h).mono ?_; rintro e w1 ⟨rfl, m, hw⟩; have hK := hide (by rw [hw]; exact (Kept.refl _ _).drewN m : Kept [b, q] _ w1); have h := (by rw [hw]; exact h.drewN m : RefAt w1 b q x); clear hw c0 c1 f0 cs fs; have c0 := h.c0; obtain ⟨cap, c1⟩ := h.c1; have f0 := h.f0; have cs := h.s k hk; have fs := h.fs k hk))
      go_ret
      exact ⟨ret_int e1.out.symm, RefAt.as ⟨h, hK.out⟩ e2.out⟩
  · exact ref_take_bad b q x o n hb w h
end Go.Proofs.YtaihcceobnfmhaaGreatDoor
