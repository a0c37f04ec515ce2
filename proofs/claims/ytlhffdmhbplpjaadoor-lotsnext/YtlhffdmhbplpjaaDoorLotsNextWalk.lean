/-
  The law LotsNext, walked.
-/
import Derived.Test.YtlhffdmhbplpjaaDoorLotsRef
import Derived.Test.YtlhffdmhbplpjaaDoorLotsBelow
import Derived.Test.YtlhffdmhbplpjaaDoorCode
namespace Go.Proofs.YtlhffdmhbplpjaaDoor
open Go.RowKit

theorem lotsNext_many (a : Option Addr) (len cap seed : Nat) (w : World) (h : 100 < len) (hm : len ≤ 9223372036854775807) :
    Calls Tryd.prog 13 #[.int .u64 seed, .slice a len cap] w fun e w' => e = .returned (.bool true) ∧ Below w.heap.size w w' := by
  go_enter Tryd.func13, Tryd.ntmps13
  go_wp2_with (go_at_call 59; refine (lotted_of _).mono ?_; rintro e w1 ⟨rfl, hB1⟩)
  go_ret
  exact ⟨rfl, hB1⟩

/-- the two lots side by side -/
structure TwoLots (w wr : World) (lp rp q : Nat) : Prop where
  p : LotAt wr lp q
  r : LotAt wr rp q
  b : Below w.heap.size w wr
theorem TwoLots.below {w wr wx : World} {lp rp q : Nat} (h : TwoLots w wr lp rp q) (hB : Below wr.heap.size wr wx) : TwoLots w wx lp rp q :=
  ⟨h.p.kept (Kept.of_below (X := []) hB) (by simp), h.r.kept (Kept.of_below (X := []) hB) (by simp), h.b.trans (hB.mono h.b.size)⟩

set_option maxRecDepth 100000 in
set_option maxHeartbeats 4000000 in
theorem lotsNext_walk (a : Option Addr) (b off n cap seed : Nat) (W : Nat → Int) (A : Nat → Addr) (w : World) (hL : Laid w A) (hs : seed < W64) (hn : n ≤ 100) (ha : Hid (0 < n → a = some ⟨b, off, none⟩)) (hb : Hid (0 < n → b < w.heap.size)) (hI : Ints w b off n W)
    (own : ∀ w', Below w.heap.size w w' → Calls Tryd.prog 51 #[.slice a n cap] w' fun e w'' => ∃ a' m cap', e = .returned (.slice a' n cap') ∧ (0 < n → a' = some ⟨m, 0, none⟩) ∧ (0 < n → m < w''.heap.size) ∧ Ints w'' m 0 n W ∧ Below w.heap.size w w'') :
    Calls Tryd.prog 13 #[.int .u64 seed, .slice a n cap] w fun e w' => e = .returned (.bool true) ∧ Below w.heap.size w w' := by
  go_enter Tryd.func13, Tryd.ntmps13
  go_wp2_with fail
  refine (lotted_of w).mono ?_
  rintro e w1 ⟨rfl, hB1⟩
  go_wp2_with fail
  refine (prog_newLot seed hs w1).mono ?_
  rintro e w2 ⟨lp, rfl, hlp, P, hB2⟩
  have hB2' := hB1.trans (hB2.mono hB1.size)
  have T0 : TwoLots w (w2.alloc (.cells #[.int .u64 seed] 89)) lp w2.heap.size seed := ⟨P.kept (Kept.of_below (X := []) ((Below.refl w2.heap.size w2).alloc (Nat.le_refl _) _)) (by simp), lot_new w2 seed hs _, hB2'.alloc hB2'.size _⟩
  have ne : lp ≠ w2.heap.size := by have := P.blk; omega
  have g1 : w.heap.size ≤ lp := by have := hB1.size; omega
  have g2 : w.heap.size ≤ w2.heap.size := hB2'.size
  clear P hB2 hB2' hB1 hlp
  go_wp2_with fail
  generalize w2.alloc (.cells #[.int .u64 seed] 89) = w3 at *
  generalize w2.heap.size = rp at *
  go_loopw [4, 8] (fun r i wr => ∃ k q : Nat, k ≤ n ∧ r = .bool false ∧ i = .int .i64 k ∧ TwoLots w wr lp rp q) (fun _ i _ => n - (intOf i).toNat)
  case atStart => exact ⟨0, seed, Nat.zero_le _, rfl, rfl, T0⟩
  case round =>
    clear T0
    obtain ⟨k, q, hk, rfl, rfl, T⟩ := hrel
    by_cases hlt : k < n
    · have hb' : b < w.heap.size := hb.out (by omega)
      have c0 := hI.below T.b hb' k hlt
      obtain rfl := ha.out (by omega)
      by_cases hw : 1 ≤ W k ∧ W k ≤ 1125899906842624
      · obtain ⟨v, hv⟩ : ∃ v : Nat, W k = v := ⟨(W k).toNat, by omega⟩
        have v1 : 1 ≤ v := by omega
        have vM : v ≤ 1125899906842624 := by omega
        have Pb := below_yes lp q v wr T.p v1 vM
        rw [← hv] at Pb
        obtain ⟨x1, x2⟩ := hw
        have hV := hide hv
        have V1 := hide v1
        have VM := hide vM
        clear hv v1 vM
        go_wp2_with fail
        refine Pb.mono ?_
        rintro e w5 ⟨y, t, rfl, B1, P5, hK5⟩
        have R5 := T.r.kept hK5 (by simp; exact fun e => ne e.symm)
        have hB5 : Below w.heap.size w w5 := T.b.trans (hK5.below T.b.size (by simp; exact g1))
        have c5 := hI.below hB5 hb' k hlt
        have Rb := hide (ref_below rp q v w5 R5 V1.out VM.out)
        have hy := B1.lt V1.out
        have y1 : (y : Int) < W k := by have := hV.out; omega
        have HB1 := hide B1
        clear c0 Pb hy B1
        have Rb' := Rb.out
        rw [← hV.out] at Rb'
        have Rb := hide Rb'
        clear Rb'
        go_wp2_with fail
        refine Rb.out.mono ?_
        rintro e w6 ⟨y', t', rfl, B2, R6, hK6⟩
        obtain ⟨rfl, rfl⟩ := HB1.out.one B2
        have T6 : TwoLots w w6 lp rp t := ⟨P5.kept hK6 (by simp; exact ne), R6, hB5.trans (hK6.below hB5.size (by simp; exact g2))⟩
        have c6 := hI.below T6.b hb' k hlt
        have d1 : ((y : Int) != (y : Int)) = false := by simp
        have d2 : ¬ W k ≤ (y : Int) := by omega
        clear Rb c5 HB1 B2
        go_wp2_with fail
        go_roundw
        case rel => exact ⟨k + 1, t, by omega, rfl, by go_num, T6⟩
        case measure => simp [intOf]; omega
      · have Pb := below_no lp (W k) (A 1) wr (hL.below T.b).v1 hw
        go_wp2_with fail
        refine Pb.mono ?_
        rintro e w5 ⟨rfl, m, hw5⟩
        have T5 : TwoLots w w5 lp rp q := by rw [hw5]; exact T.below (below_drewN (Below.refl _ _) m)
        have c5 := hI.below T5.b hb' k hlt
        have Cd := hide (coded_of (tells_sent (hL.below T5.b) 1 (by omega)))
        clear hw5 T Pb c0
        have rest : ∀ w6, Below w5.heap.size w5 w6 → TwoLots w ((w6.setCell ⟨lp, 0, none⟩ (.int .u64 (nextS q))).setCell ⟨rp, 0, none⟩ (.int .u64 (nextS q))) lp rp (nextS q) ∧ LotAt w6 lp q ∧ LotAt (w6.setCell ⟨lp, 0, none⟩ (.int .u64 (nextS q))) rp q := fun w6 hB6 => by
          have T6 := T5.below hB6
          have P7 := T6.p.set (nextS q) (nextS_lt q)
          have R7 := T6.r.kept ((Kept.refl [lp] w6).setCell (p := ⟨lp, 0, none⟩) (by simp) (.int .u64 (nextS q))) (by simp; exact fun e => ne e.symm)
          refine ⟨⟨P7.kept ((Kept.refl [rp] _).setCell (p := ⟨rp, 0, none⟩) (by simp) (.int .u64 (nextS q))) (by simp; exact ne), R7.set (nextS q) (nextS_lt q), (T6.b.setCell (p := ⟨lp, 0, none⟩) g1 _).setCell (p := ⟨rp, 0, none⟩) g2 _⟩, T6.p, R7⟩
        have REST := hide rest
        have d1 : (((nextL q : Nat) : Int) != ((nextL q : Nat) : Int)) = false := by simp
        clear rest
        by_cases x1 : W k < 1
        · clear hw
          go_wp2_with fail
          refine Cd.out.mono ?_
          rintro e w6 ⟨rfl, hB6⟩
          obtain ⟨T8, P6, R7⟩ := REST.out w6 hB6
          clear Cd REST hB6 c5 T5
          go_wp2_with fail
          refine (prog_next lp q w6 P6).mono ?_
          rintro e w7 ⟨rfl, rfl⟩
          go_wp2_with fail
          refine (ref_next rp q _ R7).mono ?_
          rintro e w8 ⟨rfl, rfl⟩
          go_wp2_with fail
          go_roundw
          case rel => exact ⟨k + 1, nextS q, by omega, rfl, by go_num, T8⟩
          case measure => simp [intOf]; omega
        · have x2 : 1125899906842624 < W k := by omega
          clear hw
          go_wp2_with fail
          refine Cd.out.mono ?_
          rintro e w6 ⟨rfl, hB6⟩
          obtain ⟨T8, P6, R7⟩ := REST.out w6 hB6
          clear Cd REST hB6 c5 T5
          go_wp2_with fail
          refine (prog_next lp q w6 P6).mono ?_
          rintro e w7 ⟨rfl, rfl⟩
          go_wp2_with fail
          refine (ref_next rp q _ R7).mono ?_
          rintro e w8 ⟨rfl, rfl⟩
          go_wp2_with fail
          go_roundw
          case rel => exact ⟨k + 1, nextS q, by omega, rfl, by go_num, T8⟩
          case measure => simp [intOf]; omega
    · obtain rfl : n = k := by omega
      clear hlt hk
      have OWN := hide (own wr T.b)
      clear own
      go_wp2_with fail
      refine OWN.out.mono ?_
      rintro e w5 ⟨a', m, cap', rfl, ha', hm', hI5, hB5⟩
      have hb5 : Hid (0 < n → b < w5.heap.size) := fun h => Nat.lt_of_lt_of_le (hb.out h) hB5.size
      have M1 := hide (prog_mix a' m 0 n cap' seed W hs (by omega) w5 ha' hm' hI5)
      have HA := hide ha'
      have HM := hide hm'
      clear OWN ha' hm' hI5
      go_wp2_with fail
      refine M1.out.mono ?_
      rintro e w6 ⟨rfl, hB6⟩
      have hB7 := hB5.trans (hB6.mono hB5.size)
      have hI6 : Ints w6 b off n W := fun i hi => by rw [hB7.cell (p := ⟨b, off + i, none⟩) (hb.out (by omega))]; exact hI i hi
      have M2 := hide (ref_mix a b off n cap seed W hs (by omega) w6 ha (fun h => Nat.lt_of_lt_of_le (hb.out h) hB7.size) hI6)
      have d1 : (((mixTo W seed n : Nat) : Int) == ((mixTo W seed n : Nat) : Int)) = true := by simp
      clear M1 hI6 hI
      go_wp2_with fail
      refine M2.out.mono ?_
      rintro e w7 ⟨rfl, hB8⟩
      clear M2
      go_wp2_with fail
      go_ret
      exact ⟨rfl, hB7.trans (hB8.mono hB7.size)⟩
end Go.Proofs.YtlhffdmhbplpjaaDoor
