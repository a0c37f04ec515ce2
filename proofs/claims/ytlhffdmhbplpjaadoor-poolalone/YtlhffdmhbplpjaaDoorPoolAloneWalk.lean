/-
  The law PoolAlone, walked.
-/
import Derived.Test.YtlhffdmhbplpjaaDoorJoined
import Derived.Test.YtlhffdmhbplpjaaDoorActs
namespace Go.Proofs.YtlhffdmhbplpjaaDoor
open Go.RowKit

set_option maxRecDepth 100000 in
set_option maxHeartbeats 4000000 in
/-- behind the acts: another one joins and leaves at once; then the one leaves -/
theorem poolAlone_walk (a : Option Addr) (b off len cap : Nat) (K : Nat → ByteArray) (O N : Nat → Int) (n other : Int) (A : Nat → Addr) (w : World) (hL : PoolLaid w A false) (ha : 0 < len → a = some ⟨b, off, none⟩) (hb : 0 < len → b < w.heap.size) (n1 : 1 ≤ n) (nM : n ≤ 1099511627776) (o1 : 1 ≤ other) (oM : other ≤ 1099511627776) (h60 : len ≤ 60) (hA : Acts w b off len K O N) :
    Calls Tryd.prog 9 #[.int .i64 n, .slice a len cap, .int .i64 other] w fun e w' => e = .returned (.bool true) ∧ Below w.heap.size w w' := by
  obtain ⟨hc0, hal0⟩ := alone_new n n1 (by omega)
  have HC0 := hide hc0
  have Ha := hide ha
  have Hb := hide hb
  clear hc0 ha hb
  go_enter Tryd.func9, Tryd.ntmps9
  go_wp2_with fail
  refine (joined_yes A false w hL).mono ?_
  rintro e w1 ⟨rfl, hB1⟩
  go_wp2_with fail
  refine (prog_new _).mono ?_
  rintro e w2 ⟨pb, pm, rfl, hpb, hpm, hP2, hB2'⟩
  have hB2 := hB1.trans (hB2'.mono hB1.size)
  have gpb := Nat.le_trans hB1.size hpb
  have gpm := Nat.le_trans hB1.size hpm
  clear hB1 hB2' hpb hpm
  go_wp2_with fail
  refine (prog_join pb pm 0 st0 st0_ok 2 n (by decide) (by omega) A false w2 (hL.below hB2) hP2).mono ?_
  rintro e w3 ⟨ev, rfl, hE, hP3, hK3⟩
  obtain rfl := hE.nil HC0.out
  have hB3 := hB2.trans (hK3.below hB2.size (by simp [gpb, gpm]))
  clear hE hP2 hB2 hK3 HC0
  generalize st0.join 2 n = x0 at *
  go_wp2_with fail
  go_loopw [9] (fun i w' => ∃ (k : Nat) (x : St), k ≤ len ∧ i = .int .i64 k ∧ Alone x ∧ PoolAt w' pb pm x (4 * k + 4) ∧ Below w.heap.size w w') (fun i _ => len - (intOf i).toNat)
  case atStart => exact ⟨0, x0, Nat.zero_le _, rfl, hal0, hP3, hB3⟩
  case round =>
    obtain ⟨k, x, hk, rfl, hal, hP, hB⟩ := hrel
    clear hP3 hB3 hal0
    by_cases hlt : k < len
    · have ea := Ha.out (by omega)
      subst ea
      obtain ⟨a0, a1, a2, wO, wN⟩ := hA.below hB (Hb.out (by omega)) k hlt
      have hg : 4 * k + 4 ≤ 1000000 := by omega
      by_cases hn : 0 ≤ N k
      · by_cases hm : N k ≤ 1099511627776
        · cases ha : ((K k).toList == [97, 100, 100]) with
          | true =>
            go_wp2_with fail
            refine (prog_add pb pm _ x hal.ok (N k) A false _ (hL.below hB) hP).mono ?_
            rintro e w4 ⟨ev, rfl, hE, hP4, hK4⟩
            have hB4 := hB.trans (hK4.below hB.size (by simp [gpb, gpm]))
            have haly := hal.add (N k)
            generalize x.add (N k) = y at *
            clear hE hP hB hK4 hal
            have yv := hide haly.val
            have ya := hide haly.all
            have d1 : (y.val 2 != y.T) = false := by simp [yv.out]
            have d2 : (y.s 2 != y.A) = false := by simp [ya.out]
            go_wp2_with fail
            refine (prog_value pb pm _ y haly.ok 2 (by decide) _ hP4).mono ?_
            rintro e w5 ⟨rfl, m5, hw⟩
            have hP5 : PoolAt w5 pb pm y (4 * k + 4 + 4) := by rw [hw]; exact hP4.drewN m5
            have hB5 : Below w.heap.size w w5 := by rw [hw]; exact below_drewN hB4 m5
            clear hw hP4 hB4
            go_wp2_with fail
            refine (prog_total pb pm _ y _ hP5).mono ?_
            rintro e w6 ⟨rfl, rfl⟩
            go_wp2_with fail
            refine (prog_shares pb pm _ y 2 (by decide) _ hP5).mono ?_
            rintro e w7 ⟨rfl, rfl⟩
            go_wp2_with fail
            refine (prog_all pb pm _ y _ hP5).mono ?_
            rintro e w8 ⟨rfl, rfl⟩
            go_wp2
            go_roundw
            case rel => exact ⟨k + 1, y, by omega, by go_num, haly, hP5.more (by omega), hB5⟩
            case measure => simp [intOf]; omega
          | false =>
            go_wp2_with fail
            refine (prog_slash pb pm _ x hal.ok (N k) A false _ (hL.below hB) hP).mono ?_
            rintro e w4 ⟨ev, rfl, hE, hP4, hK4⟩
            have hB4 := hB.trans (hK4.below hB.size (by simp [gpb, gpm]))
            have haly := hal.slash (N k)
            generalize x.slash (N k) = y at *
            clear hE hP hB hK4 hal
            have yv := hide haly.val
            have ya := hide haly.all
            have d1 : (y.val 2 != y.T) = false := by simp [yv.out]
            have d2 : (y.s 2 != y.A) = false := by simp [ya.out]
            go_wp2_with fail
            refine (prog_value pb pm _ y haly.ok 2 (by decide) _ hP4).mono ?_
            rintro e w5 ⟨rfl, m5, hw⟩
            have hP5 : PoolAt w5 pb pm y (4 * k + 4 + 4) := by rw [hw]; exact hP4.drewN m5
            have hB5 : Below w.heap.size w w5 := by rw [hw]; exact below_drewN hB4 m5
            clear hw hP4 hB4
            go_wp2_with fail
            refine (prog_total pb pm _ y _ hP5).mono ?_
            rintro e w6 ⟨rfl, rfl⟩
            go_wp2_with fail
            refine (prog_shares pb pm _ y 2 (by decide) _ hP5).mono ?_
            rintro e w7 ⟨rfl, rfl⟩
            go_wp2_with fail
            refine (prog_all pb pm _ y _ hP5).mono ?_
            rintro e w8 ⟨rfl, rfl⟩
            go_wp2
            go_roundw
            case rel => exact ⟨k + 1, y, by omega, by go_num, haly, hP5.more (by omega), hB5⟩
            case measure => simp [intOf]; omega
        · go_wp2
          go_roundw
          case rel => exact ⟨k + 1, x, by omega, by go_num, hal, hP.more (by omega), hB⟩
          case measure => simp [intOf]; omega
      · go_wp2
        go_roundw
        case rel => exact ⟨k + 1, x, by omega, by go_num, hal, hP.more (by omega), hB⟩
        case measure => simp [intOf]; omega
    · have hg : 4 * k + 4 ≤ 244 := by omega
      have xT0 := hal.ok.t0
      have xT1 := hal.ok.t1
      go_wp2_with fail
      refine (prog_total pb pm _ x _ hP).mono ?_
      rintro e w5 ⟨rfl, rfl⟩
      go_wp2_with fail
      refine (prog_join pb pm _ x hal.ok 4 other (by decide) (by omega) A false _ (hL.below hB) hP).mono ?_
      rintro e w6 ⟨ev, rfl, hE, hP6, hK6⟩
      have hB6 := hB.trans (hK6.below hB.size (by simp [gpb, gpm]))
      by_cases hc : x.joinC 4 other = 0
      · obtain rfl := hE.nil hc
        obtain ⟨l1, l2, l3, l4⟩ := hal.back other hc
        have oky := hal.ok.join 4 other
        have nn : 0 ≤ (x.join 4 other).leaveN 4 := by rw [(St.leave_yes l1).2]; exact oky.val0 4
        have zt := l4.val
        have L1 := hide l1
        have L3 := hide l3
        have ZT := hide zt
        clear l1 l3 zt hE hc hP hB hK6
        generalize x.join 4 other = y at *
        go_wp2_with fail
        refine (prog_leave pb pm _ y oky 4 (by decide) (by omega) A false _ (hL.below hB6) hP6).mono ?_
        rintro e w7 ⟨ev, rfl, hE7, hP7, hK7⟩
        obtain rfl := hE7.nil L1.out
        have hB7 := hB6.trans (hK7.below hB6.size (by simp [gpb, gpm]))
        clear hE7 hP6 hB6 hK7 L1
        generalize y.leave 4 = z at *
        generalize y.leaveN 4 = bk at *
        have d1 : (z.T != x.T + other - bk) = false := by simp [L3.out]
        have d2 : x.T ≤ z.val 2 := by rw [ZT.out, L3.out]; omega
        go_wp2_with fail
        refine (prog_total pb pm _ z _ hP7).mono ?_
        rintro e w8 ⟨rfl, rfl⟩
        go_wp2_with fail
        refine (prog_value pb pm _ z l4.ok 2 (by decide) _ hP7).mono ?_
        rintro e w9 ⟨rfl, m9, hw⟩
        have hP9 : PoolAt w9 pb pm z (4 * k + 4 + 4 + 4) := by rw [hw]; exact hP7.drewN m9
        have hB9 : Below w.heap.size w w9 := by rw [hw]; exact below_drewN hB7 m9
        clear hw hP7 hB7
        obtain ⟨q1, q2, q3, q4⟩ := l4.out
        have Q1 := hide q1
        have t1 : x.T ≤ z.leaveN 2 := by rw [q2]; rw [ZT.out] at d2; exact d2
        have t2 : ((z.leave 2).T == 0) = true := by simp [q3]
        have t3 : ((z.leave 2).A == 0) = true := by simp [q4]
        clear q1 q2 q3 q4 ZT L3
        go_wp2_with fail
        refine (prog_leave pb pm _ z l4.ok 2 (by decide) (by omega) A false _ (hL.below hB9) hP9).mono ?_
        rintro e w10 ⟨ev, rfl, hE10, hP10, hK10⟩
        obtain rfl := hE10.nil Q1.out
        have hB10 := hB9.trans (hK10.below hB9.size (by simp [gpb, gpm]))
        clear hE10 hP9 hB9 hK10 Q1
        go_wp2_with fail
        refine (prog_total pb pm _ _ _ hP10).mono ?_
        rintro e w11 ⟨rfl, rfl⟩
        go_wp2_with fail
        refine (prog_all pb pm _ _ _ hP10).mono ?_
        rintro e w12 ⟨rfl, rfl⟩
        go_wp2
        go_ret
        exact ⟨rfl, hB10⟩
      · obtain ⟨i, rfl⟩ := hE.err hc
        rw [St.join_no rfl hc] at hP6
        obtain ⟨q1, q2, q3, q4⟩ := hal.out
        have Q1 := hide q1
        have t1 : x.T ≤ x.leaveN 2 := by rw [q2]; exact Int.le_refl _
        have t2 : ((x.leave 2).T == 0) = true := by simp [q3]
        have t3 : ((x.leave 2).A == 0) = true := by simp [q4]
        clear q1 q2 q3 q4 hE hc hP hB hK6
        go_wp2_with fail
        refine (prog_leave pb pm _ x hal.ok 2 (by decide) (by omega) A false _ (hL.below hB6) hP6).mono ?_
        rintro e w10 ⟨ev, rfl, hE10, hP10, hK10⟩
        obtain rfl := hE10.nil Q1.out
        have hB10 := hB6.trans (hK10.below hB6.size (by simp [gpb, gpm]))
        clear hE10 hP6 hB6 hK10 Q1
        go_wp2_with fail
        refine (prog_total pb pm _ _ _ hP10).mono ?_
        rintro e w11 ⟨rfl, rfl⟩
        go_wp2_with fail
        refine (prog_all pb pm _ _ _ hP10).mono ?_
        rintro e w12 ⟨rfl, rfl⟩
        go_wp2
        go_ret
        exact ⟨rfl, hB10⟩

set_option maxRecDepth 100000 in
set_option maxHeartbeats 1000000 in
theorem poolAlone_out (a : Option Addr) (len cap : Nat) (hm : len ≤ 9223372036854775807) (n other : Int) (A : Nat → Addr) (w : World) (hL : PoolLaid w A false) (h : ¬ (1 ≤ n ∧ n ≤ 1099511627776 ∧ len ≤ 60 ∧ 1 ≤ other ∧ other ≤ 1099511627776)) :
    Calls Tryd.prog 9 #[.int .i64 n, .slice a len cap, .int .i64 other] w fun e w' => e = .returned (.bool true) ∧ Below w.heap.size w w' := by
  by_cases n1 : 1 ≤ n
  · by_cases n2 : n ≤ 1099511627776
    · by_cases l1 : len ≤ 60
      · by_cases o1 : 1 ≤ other
        · have o2 : 1099511627776 < other := by omega
          clear h
          go_enter Tryd.func9, Tryd.ntmps9
          go_wp2_with fail
          refine (joined_yes A false w hL).mono ?_
          rintro e w1 ⟨rfl, hB1⟩
          go_wp2
          go_ret
          exact ⟨rfl, hB1⟩
        · clear h
          go_enter Tryd.func9, Tryd.ntmps9
          go_wp2_with fail
          refine (joined_yes A false w hL).mono ?_
          rintro e w1 ⟨rfl, hB1⟩
          go_wp2
          go_ret
          exact ⟨rfl, hB1⟩
      · clear h
        go_enter Tryd.func9, Tryd.ntmps9
        go_wp2_with fail
        refine (joined_yes A false w hL).mono ?_
        rintro e w1 ⟨rfl, hB1⟩
        go_wp2
        go_ret
        exact ⟨rfl, hB1⟩
    · clear h
      go_enter Tryd.func9, Tryd.ntmps9
      go_wp2_with fail
      refine (joined_yes A false w hL).mono ?_
      rintro e w1 ⟨rfl, hB1⟩
      go_wp2
      go_ret
      exact ⟨rfl, hB1⟩
  · clear h
    go_enter Tryd.func9, Tryd.ntmps9
    go_wp2_with fail
    refine (joined_yes A false w hL).mono ?_
    rintro e w1 ⟨rfl, hB1⟩
    go_wp2
    go_ret
    exact ⟨rfl, hB1⟩
end Go.Proofs.YtlhffdmhbplpjaaDoor
