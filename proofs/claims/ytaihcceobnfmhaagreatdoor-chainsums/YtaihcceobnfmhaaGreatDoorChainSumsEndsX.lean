/-
  The law ChainSums of package bakehouselaw3, walked: for every seed and every slice of acts it returns true.
  The law ChainSums, walked, where there is nothing to do, or too much; all of it.
-/
import Derived.Test.YtaihcceobnfmhaaGreatDoorChainDoX
namespace Go.Proofs.YtaihcceobnfmhaaGreatDoor
open Go.RowKit

/-- what the first so many may spend -/
def hasTo (p : Pu) : Nat → Int
  | 0 => 0
  | k + 1 => hasTo p k + p.s k
theorem hasTo_six (p : Pu) : hasTo p 6 = p.sum := by simp [hasTo, Pu.sum]
theorem hasTo_bd {p : Pu} (h : p.Ok) : ∀ k, 0 ≤ hasTo p k ∧ (k ≤ 6 → hasTo p k ≤ p.sum)
  | 0 => ⟨Int.le_refl _, fun _ => h.sum0⟩
  | k + 1 => by
    refine ⟨?_, fun hk => ?_⟩
    · have a := (hasTo_bd h k).1
      have := h.pos k
      show 0 ≤ hasTo p k + p.s k
      omega
    · have h0 := h.pos 0
      have h1 := h.pos 1
      have h2 := h.pos 2
      have h3 := h.pos 3
      have h4 := h.pos 4
      have h5 := h.pos 5
      have e : k = 0 ∨ k = 1 ∨ k = 2 ∨ k = 3 ∨ k = 4 ∨ k = 5 := by omega
      rcases e with rfl | rfl | rfl | rfl | rfl | rfl <;> simp [hasTo, Pu.sum] <;> omega
theorem Mine.chain {w w1 w2 : World} {F : Nat → Prop} (hB1 : Below w.heap.size w w1) (hF : ∀ k, F k → w1.heap.size ≤ k) (hB2 : Below w1.heap.size w1 w2) : Mine w.heap.size w w2 F := ⟨fun k g => Nat.le_trans hB1.size (hF k g), hB1.trans (hB2.mono hB1.size), Nat.le_trans hB1.size hB2.size⟩
set_option maxRecDepth 100000 in
set_option maxHeartbeats 4000000 in
theorem chainSums_walk (seed : Nat) (hs : seed < W64) (b off len cap : Nat) (A : Nat → Addr) (w : World) (hL : ChLaid w A) (hb : b < w.heap.size) (h120 : len ≤ 120) (hA : CActs w b off len) :
    Calls Tryz.prog 4 #[.int .u64 seed, .slice (some ⟨b, off, none⟩) len cap] w fun e w' => e = .returned (.bool true) ∧ Below w.heap.size w w' := by
  go_enter Tryz.func4, Tryz.ntmps4
  go_wp2_with fail
  refine (begun_of A w hL).mono ?_
  rintro e w1 ⟨rfl, hB1⟩
  go_wp2_with fail
  refine (pch_new seed hs A w1 (hL.below hB1)).mono ?_
  rintro e w2 ⟨cb, F2, rfl, h2, hF, hB2⟩
  have m2 := Mine.chain hB1 hF hB2
  clear hB1 hB2 hF
  go_wp2_with fail
  go_loopw [7] (fun i w' => ∃ (k g : Nat) (C : Ch) (F : Nat → Prop), k ≤ len ∧ g ≤ 10000 + 2000 * k ∧ i = .int .i64 k ∧ C.Ok ∧ C.Fit k ∧ PCh F w' cb C g ∧ Mine w.heap.size w w' F) (fun i _ => len - (intOf i).toNat)
  case atStart => exact ⟨0, 10000, chNew seed, F2, Nat.zero_le _, Nat.le_refl _, rfl, chNew_ok seed hs, chNew_fit seed, h2, m2⟩
  case round =>
    obtain ⟨k, g, C, F, hk, hg, rfl, hC, hf, hP, hM⟩ := hrel
    clear h2 m2
    by_cases hlt : k < len
    · go_wp2_with fail
      refine (pch_supply F cb C g wr hP).mono ?_
      rintro e w3 ⟨rfl, hB3⟩
      have hP3 := hP.nextB hB3
      have hM3 := hM.nextB hB3
      clear hP hM hB3
      go_wp2_with fail
      refine (pch_cycle F cb C g w3 hP3).mono ?_
      rintro e w4 ⟨rfl, hB4⟩
      have hP4 := hP3.nextB hB4
      have hM4 := hM3.nextB hB4
      clear hP3 hM3 hB4
      obtain ⟨t, a, f⟩ := hA.below hM4.below hb k hlt
      have a0 := a.c0
      have a1 := a.c1
      have a2 := a.c2
      have a3 := a.c3
      have a4 := a.c4
      have a5 := a.c5
      have a6 := a.c6
      have a7 := a.c7
      have a8 := a.c8
      go_wp2_with fail
      refine (do_of F cb C hC k (by omega) hf g (by omega) t f A w4 (hL.below hM4.below) hP4).mono ?_
      rintro e w5 ⟨n, C5, F5, g5, rfl, went, hg5, hP5, hM5'⟩
      have hM5 := hM4.next hM5'
      clear hM5' hM4 hP4 a a0 a1 a2 a3 a4 a5 a6 a7 a8
      have n0 := went.n0
      have le := went.le
      have eq := went.eq
      have nS := went.nS
      have p0 := hC.pos
      have p1 := hC.p.top
      have ok5 := went.ok
      have fit5 := went.fit
      have q0 := ok5.pos
      have q1 := ok5.p.top
      have bn : C.p.S + n ≤ 2000000000000000 := by omega
      have bn0 : 0 ≤ C.p.S + n := by omega
      clear nS went hC hf
      go_wp2_with fail
      refine (pch_supply F5 cb C5 g5 w5 hP5).mono ?_
      rintro e w6 ⟨rfl, hB6⟩
      have hP6 := hP5.nextB hB6
      have hM6 := hM5.nextB hB6
      clear hP5 hM5 hB6
      go_wp2_with fail
      refine (pch_cycle F5 cb C5 g5 w6 hP6).mono ?_
      rintro e w7 ⟨rfl, hB7⟩
      have hP7 := hP6.nextB hB7
      have hM7 := hM6.nextB hB7
      clear hP6 hM6 hB7
      by_cases hy : C5.cyc = C.cyc
      · have e1 : (((C5.cyc : Nat) : Int) == ((C.cyc : Nat) : Int)) = true := by rw [hy]; simp
        have e2 : C5.p.S = C.p.S + n := eq hy
        have e3 : (C5.p.S != C.p.S + n) = false := by rw [e2]; simp
        clear e2 eq hy
        go_wp2_with fail
        refine (pch_supply F5 cb C5 g5 w7 hP7).mono ?_
        rintro e w8 ⟨rfl, hB8⟩
        have hP8 := hP7.nextB hB8
        have hM8 := hM7.nextB hB8
        clear hP7 hM7 hB8
        go_wp2_with fail
        refine (pch_stakes F5 cb C5 g5 w8 hP8).mono ?_
        rintro e wa ⟨sb, Fs, rfl, hsa, _, hBa⟩
        have hPa := (hP8).nextB hBa
        have hMa := (hM8).nextB hBa
        clear hBa
        go_wp2_with fail
        refine (ps_total Fs sb C5.s ok5.s (by have := fit5.k; omega) _ wa hsa).mono ?_
        rintro e wb ⟨rfl, hBb⟩
        have hPb := hPa.nextB hBb
        have hMb := hMa.nextB hBb
        have hs5 := ok5.sum
        have ht5 := ok5.s.total_bd.1
        clear hBb hPa hMa hsa
        go_wp2_with fail
        go_loopw [11, 12] (fun s i wx => ∃ j : Nat, j ≤ 6 ∧ i = .int .i64 j ∧ s = .int .i64 (C5.s.total + hasTo C5.p j) ∧ PCh F5 wx cb C5 g5 ∧ Mine w.heap.size w wx F5) (fun _ i _ => 6 - (intOf i).toNat)
        case atStart => exact ⟨0, by omega, rfl, by simp [hasTo], hPb, hMb⟩
        case round =>
          obtain ⟨j, hj, rfl, rfl, hPj, hMj⟩ := hrel
          clear hPb hMb
          by_cases hj6 : j < 6
          · have o0 := ok5.p.pos j
            have x0 := (hasTo_bd ok5.p j).1
            have x1 := (hasTo_bd ok5.p j).2 (by omega)
            have y1 : hasTo C5.p j + C5.p.s j ≤ C5.p.sum := (hasTo_bd ok5.p (j + 1)).2 (by omega)
            have HN : Hid (C5.s.total + hasTo C5.p j + C5.p.s j = C5.s.total + hasTo C5.p (j + 1)) := by show _ = C5.s.total + (hasTo C5.p j + C5.p.s j); omega
            have wj : (Lit.int .i64 (j : Int)).wf = true := WalkArith.wf_i64 (by omega)
            have z1 : C5.s.total + hasTo C5.p j ≤ 1125899906842624 := by omega
            have z2 : 0 ≤ C5.s.total + hasTo C5.p j := by omega
            have z3 : C5.p.s j ≤ 1125899906842624 := by omega
            clear x0 x1 y1 hs5 ht5
            go_wp2_with fail
            refine (pch_has F5 cb C5 ok5 g5 j _ hPj).mono ?_
            rintro e wc ⟨rfl, hBc⟩
            have hPc := hPj.nextB hBc
            have hMc := hMj.nextB hBc
            clear hPj hMj hBc
            go_wp2_with fail
            refine (pch_has F5 cb C5 ok5 g5 j wc hPc).mono ?_
            rintro e wd ⟨rfl, hBd⟩
            have hPd := hPc.nextB hBd
            have hMd := hMc.nextB hBd
            clear hPc hMc hBd
            go_wp2_with fail
            go_roundw
            case rel => exact ⟨j + 1, by omega, by go_num, by rw [HN.out], hPd, hMd⟩
            case measure => simp [intOf]; omega
          · obtain rfl : j = 6 := by omega
            have dS : (C5.s.total + hasTo C5.p 6 != C5.p.S) = false := by rw [hasTo_six, hs5, Int.add_comm]; simp
            go_wp2_with fail
            refine (pch_supply F5 cb C5 g5 _ hPj).mono ?_
            rintro e wc ⟨rfl, hBc⟩
            have hPc := hPj.nextB hBc
            have hMc := hMj.nextB hBc
            clear hPj hMj hBc
            go_wp2_with fail
            go_roundw
            case rel => exact ⟨k + 1, g5, C5, F5, by omega, by omega, by go_num, ok5, fit5, hPc, hMc⟩
            case measure => simp [intOf]; omega
      · have e1 : (((C5.cyc : Nat) : Int) == ((C.cyc : Nat) : Int)) = false := by rw [beq_eq_false_iff_ne]; omega
        clear eq hy
        go_wp2_with fail
        refine (pch_stakes F5 cb C5 g5 w7 hP7).mono ?_
        rintro e wa ⟨sb, Fs, rfl, hsa, _, hBa⟩
        have hPa := (hP7).nextB hBa
        have hMa := (hM7).nextB hBa
        clear hBa
        go_wp2_with fail
        refine (ps_total Fs sb C5.s ok5.s (by have := fit5.k; omega) _ wa hsa).mono ?_
        rintro e wb ⟨rfl, hBb⟩
        have hPb := hPa.nextB hBb
        have hMb := hMa.nextB hBb
        have hs5 := ok5.sum
        have ht5 := ok5.s.total_bd.1
        clear hBb hPa hMa hsa
        go_wp2_with fail
        go_loopw [11, 12] (fun s i wx => ∃ j : Nat, j ≤ 6 ∧ i = .int .i64 j ∧ s = .int .i64 (C5.s.total + hasTo C5.p j) ∧ PCh F5 wx cb C5 g5 ∧ Mine w.heap.size w wx F5) (fun _ i _ => 6 - (intOf i).toNat)
        case atStart => exact ⟨0, by omega, rfl, by simp [hasTo], hPb, hMb⟩
        case round =>
          obtain ⟨j, hj, rfl, rfl, hPj, hMj⟩ := hrel
          clear hPb hMb
          by_cases hj6 : j < 6
          · have o0 := ok5.p.pos j
            have x0 := (hasTo_bd ok5.p j).1
            have x1 := (hasTo_bd ok5.p j).2 (by omega)
            have y1 : hasTo C5.p j + C5.p.s j ≤ C5.p.sum := (hasTo_bd ok5.p (j + 1)).2 (by omega)
            have HN : Hid (C5.s.total + hasTo C5.p j + C5.p.s j = C5.s.total + hasTo C5.p (j + 1)) := by show _ = C5.s.total + (hasTo C5.p j + C5.p.s j); omega
            have wj : (Lit.int .i64 (j : Int)).wf = true := WalkArith.wf_i64 (by omega)
            have z1 : C5.s.total + hasTo C5.p j ≤ 1125899906842624 := by omega
            have z2 : 0 ≤ C5.s.total + hasTo C5.p j := by omega
            have z3 : C5.p.s j ≤ 1125899906842624 := by omega
            clear x0 x1 y1 hs5 ht5
            go_wp2_with fail
            refine (pch_has F5 cb C5 ok5 g5 j _ hPj).mono ?_
            rintro e wc ⟨rfl, hBc⟩
            have hPc := hPj.nextB hBc
            have hMc := hMj.nextB hBc
            clear hPj hMj hBc
            go_wp2_with fail
            refine (pch_has F5 cb C5 ok5 g5 j wc hPc).mono ?_
            rintro e wd ⟨rfl, hBd⟩
            have hPd := hPc.nextB hBd
            have hMd := hMc.nextB hBd
            clear hPc hMc hBd
            go_wp2_with fail
            go_roundw
            case rel => exact ⟨j + 1, by omega, by go_num, by rw [HN.out], hPd, hMd⟩
            case measure => simp [intOf]; omega
          · obtain rfl : j = 6 := by omega
            have dS : (C5.s.total + hasTo C5.p 6 != C5.p.S) = false := by rw [hasTo_six, hs5, Int.add_comm]; simp
            go_wp2_with fail
            refine (pch_supply F5 cb C5 g5 _ hPj).mono ?_
            rintro e wc ⟨rfl, hBc⟩
            have hPc := hPj.nextB hBc
            have hMc := hMj.nextB hBc
            clear hPj hMj hBc
            go_wp2_with fail
            go_roundw
            case rel => exact ⟨k + 1, g5, C5, F5, by omega, by omega, by go_num, ok5, fit5, hPc, hMc⟩
            case measure => simp [intOf]; omega
    · obtain rfl : k = len := by omega
      have hB := hM.below
      clear hP hM
      go_wp2_with fail
      go_ret
      exact ⟨rfl, hB⟩
end Go.Proofs.YtaihcceobnfmhaaGreatDoor

namespace Go.Proofs.YtaihcceobnfmhaaGreatDoor
open Go.RowKit

set_option maxRecDepth 100000 in
set_option maxHeartbeats 1000000 in
theorem chainSums_none (seed : Nat) (hs : seed < W64) (a : Option Addr) (cap : Nat) (A : Nat → Addr) (w : World) (hL : ChLaid w A) :
    Calls Tryz.prog 4 #[.int .u64 seed, .slice a 0 cap] w fun e w' => e = .returned (.bool true) ∧ Below w.heap.size w w' := by
  go_enter Tryz.func4, Tryz.ntmps4
  go_wp2_with fail
  refine (begun_of A w hL).mono ?_
  rintro e w1 ⟨rfl, hB1⟩
  go_wp2_with fail
  refine (pch_new seed hs A w1 (hL.below hB1)).mono ?_
  rintro e w2 ⟨cb, F2, rfl, _, _, hB2⟩
  have hB := hB1.trans (hB2.mono hB1.size)
  clear hB1 hB2
  go_wp2_with fail
  go_loopw [7] (fun i w' => i = .int .i64 0 ∧ w' = w2) (fun _ _ => 0)
  case atStart => exact ⟨rfl, rfl⟩
  case round =>
    obtain ⟨rfl, rfl⟩ := hrel
    go_wp2_with fail
    go_ret
    exact ⟨rfl, hB⟩
set_option maxRecDepth 100000 in
theorem chainSums_many (seed : Nat) (a : Option Addr) (len cap : Nat) (h : 120 < len) (hm : len ≤ 9223372036854775807) (A : Nat → Addr) (w : World) (hL : ChLaid w A) :
    Calls Tryz.prog 4 #[.int .u64 seed, .slice a len cap] w fun e w' => e = .returned (.bool true) ∧ Below w.heap.size w w' := by
  go_enter Tryz.func4, Tryz.ntmps4
  go_wp2_with fail
  refine (begun_of A w hL).mono ?_
  rintro e w1 ⟨rfl, hB1⟩
  go_wp2
  go_ret
  exact ⟨rfl, hB1⟩
theorem chainSums_any (seed : Nat) (hs : seed < W64) (a : Option Addr) (len cap : Nat) (A : Nat → Addr) (w : World) (hL : ChLaid w A) (s : IsCActs w a len cap) :
    Calls Tryz.prog 4 #[.int .u64 seed, .slice a len cap] w fun e w' => e = .returned (.bool true) ∧ Below w.heap.size w w' := by
  rcases s with rfl | ⟨b, off, rfl, hb, hcap, hm, hA⟩
  · exact chainSums_none seed hs a cap A w hL
  · rcases Nat.eq_zero_or_pos len with rfl | _
    · exact chainSums_none seed hs _ cap A w hL
    · by_cases h120 : len ≤ 120
      · exact chainSums_walk seed hs b off len cap A w hL hb h120 hA
      · exact chainSums_many seed _ len cap (by omega) (by omega) A w hL
end Go.Proofs.YtaihcceobnfmhaaGreatDoor
