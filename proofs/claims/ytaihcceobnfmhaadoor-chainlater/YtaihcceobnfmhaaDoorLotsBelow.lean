/-
  The program's lot below a number, by its contract.
-/
import Derived.Test.YtaihcceobnfmhaaDoorLotsMixX
import Derived.Test.YtaihcceobnfmhaaDoorSentVX
namespace Go.Proofs.YtaihcceobnfmhaaDoor
open Go.RowKit

theorem below_no (b : Nat) (n : Int) (A1 : Addr) (w : World) (hE : w.cell? ⟨0, 0, none⟩ = some (sent A1)) (hn : ¬ (1 ≤ n ∧ n ≤ 1125899906842624)) :
    Calls Tryd.prog 50 #[.pointer (some ⟨b, 0, none⟩), .int .i64 n] w fun e w' => e = .returned (.tuple #[.int .i64 0, sent A1]) ∧ ∃ m, w' = w.drewN m := by
  have S := some_no n hn
  clear hn
  go_enter Tryd.func50, Tryd.ntmps50
  go_wp2_with (go_at_call 65; refine (S _).mono ?_; rintro e w' ⟨rfl, rfl⟩)
  go_quiet (fail)
  go_wp2
  go_ret2
  exact ⟨rfl, _, rfl⟩

set_option maxRecDepth 100000 in
set_option maxHeartbeats 1000000 in
theorem below_yes (b s n : Nat) (w : World) (h : LotAt w b s) (n1 : 1 ≤ n) (nM : n ≤ 1125899906842624) :
    Calls Tryd.prog 50 #[.pointer (some ⟨b, 0, none⟩), .int .i64 n] w fun e w' => ∃ v t, e = .returned (.tuple #[.int .i64 (v : Nat), .nilIface]) ∧ Bel n s v t ∧ LotAt w' b t ∧ Kept [b] w w' := by
  have S := some_yes n (by omega) (by omega)
  obtain ⟨N', M, Q, hN, hM, m1, m2, q0, q1, q2, q3⟩ : ∃ N' M Q : Int, (n : Int) = N' ∧ ((most n : Nat) : Int) = M ∧ 1 ≤ N' ∧ N' ≤ 1125899906842624 ∧ 9223372036854775808 % N' = Q ∧ 0 ≤ Q ∧ Q ≤ 9223372036854775808 ∧ 9223372036854775808 - Q = M := by
    have hm := most_rest n
    have e : (9223372036854775808 : Int) % (n : Int) = ((9223372036854775808 % n : Nat) : Int) := rfl
    exact ⟨_, _, _, rfl, rfl, by omega, by omega, e, by omega, by omega, by omega⟩
  have m3 : 0 ≤ M := by omega
  have m4 : M ≤ 9223372036854775808 := by omega
  have step : ∀ q, Hid (∃ X Z R : Int, (nextL q : Int) = X ∧ ((nextL q / 2 : Nat) : Int) = Z ∧ ((nextL q / 2 % n : Nat) : Int) = R ∧ 0 ≤ Z ∧ Z ≤ 9223372036854775807 ∧ 0 ≤ R ∧ R ≤ Z ∧ R < N' ∧ X / 2 = Z ∧ Z % N' = R ∧ (Z < M ↔ nextL q / 2 < most n)) := fun q => by
    have hl := nextL_lt q
    have hm := Nat.mod_le (nextL q / 2) n
    have hn := Nat.mod_lt (nextL q / 2) (show 0 < n by omega)
    have hb : nextL q < 18446744073709551616 := hl
    have ht : ((nextL q / 2 : Nat) : Int) % N' = ((nextL q / 2 % n : Nat) : Int) := by rw [← hN]; exact (Int.natCast_emod _ _).symm
    exact ⟨_, _, _, rfl, rfl, rfl, by omega, by omega, by omega, by omega, by omega, by omega, ht, by omega⟩
  obtain ⟨lag, hlag'⟩ := lag_ex
  have hlag := hide hlag'
  clear hlag'
  go_enter Tryd.func50, Tryd.ntmps50
  rw [hN]
  rw [hN] at S
  have N1 := hide n1
  have NM := hide nM
  have N := prog_next b s w h
  have hq' := h.set (nextS s) (nextS_lt s)
  have hK' := (Kept.refl [b] w).setCell (p := ⟨b, 0, none⟩) (by simp) (.int .u64 (nextS s))
  have hs := hide h.lt
  obtain ⟨X, Z, R, hX, hZ, hR', z0, z1, r0, r1, r2, w2, ht, hmt⟩ := (step s).out
  rw [hX] at N
  have HZ := hide hZ
  clear hN hM n1 nM h hX hZ hR' r0 r1 r2 ht hmt
  go_wp2_with (first | (go_at_call 65; refine (S w).mono ?_; rintro e w0 ⟨rfl, rfl⟩) | (go_at_call 54; refine N.mono ?_; rintro e w1 ⟨rfl, rfl⟩))
  go_loopw [8] (fun r wr => ∃ (q : Nat) (Z : Int), r = .int .u64 Z ∧ Hid (((nextL q / 2 : Nat) : Int) = Z) ∧ LotAt wr b (nextS q) ∧ Kept [b] w0 wr ∧ Hid (q < W64 ∧ ∀ v t, Bel n q v t → Bel n s v t)) (fun _ wr => lag (stateOf wr b))
  case atStart => exact ⟨s, Z, by rw [w2], HZ, hq', hK', hs.out, fun _ _ h => h⟩
  case round =>
    obtain ⟨q, Z, rfl, HZ', hL, hK, hR⟩ := hrel
    clear hq' hK' HZ N S z0 z1 w2 hs q0 q1 q2 q3
    obtain ⟨X, _, R, hX, rfl, hR', z0, z1, r0, r1, r2, w2, ht, hmt⟩ := (step q).out
    rw [HZ'.out] at z0 z1 r1 w2 ht hmt
    clear HZ'
    by_cases hlt : nextL q / 2 < most n
    · have hB : Hid (∃ v : Nat, Bel n s v (nextS q) ∧ (v : Int) = R) := ⟨_, hR.out.2 _ _ (Bel.take q hlt), hR'⟩
      have g := hmt.2 hlt
      clear hmt hR hlt hR' hX step hlag N1 NM
      go_wp2
      go_ret2
      obtain ⟨v, hv, hR⟩ := hB.out
      exact ⟨v, nextS q, ret_pair hR.symm _, hv, hL, hK⟩
    · have hR2 : Hid (nextS q < W64 ∧ ∀ v t, Bel n (nextS q) v t → Bel n s v t) := ⟨nextS_lt q, fun v t h => hR.out.2 v t (Bel.more q v t hlt h)⟩
      have g : ¬ Z < M := fun g => hlt (hmt.1 g)
      have hf := hide (falls hR.out.1 N1.out (by have := NM.out; omega) hlt)
      have N := prog_next b (nextS q) wr hL
      have hL2 := hL.set (nextS (nextS q)) (nextS_lt _)
      have hK2 := hK.setCell (p := ⟨b, 0, none⟩) (by simp) (.int .u64 (nextS (nextS q)))
      have hm : Hid (lag (stateOf (wr.setCell ⟨b, 0, none⟩ (.int .u64 (nextS (nextS q)))) b) < lag (stateOf wr b)) := by
        rw [hL.state, hL2.state, hlag.out, hlag.out, prevS_next _ hR.out.1, prevS_next _ (nextS_lt q)]
        exact hf.out
      clear hf hlag
      clear hmt hR hlt hR' hX z0 z1 r0 r1 r2 w2 ht
      obtain ⟨X', Z', R', hX, hZ, hR', z0', z1', r0, r1, r2, w2', ht, hmt⟩ := (step (nextS q)).out
      rw [hX] at N
      have HZ := hide hZ
      clear hmt hR' hZ hX r0 r1 r2 ht step
      go_wp2_with (go_at_call 54; refine N.mono ?_; rintro e w1 ⟨rfl, rfl⟩)
      go_roundw
      case rel => exact ⟨nextS q, Z', by rw [w2'], HZ, hL2, hK2, hR2⟩
      case measure => exact hm.out
end Go.Proofs.YtaihcceobnfmhaaDoor
