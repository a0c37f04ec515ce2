/-
  The law StakeWaits, walked: for any numbers it returns true.
-/
import Derived.Test.YtlhffdmhbplpjabDoorStaked
import Derived.Test.YtlhffdmhbplpjabDoorWaitsMath
import Derived.Test.YtlhffdmhbplpjabDoorCoded2
namespace Go.Proofs.YtlhffdmhbplpjabDoor
open Go.RowKit

theorem PSk.nextM {F : Nat → Prop} {w w' : World} {sb g : Nat} {S : Sk} (h : PSk F w sb S g) (k : Below w.heap.size w w') : PSk F w' sb S g := h.keptP (KeptP.of_below (F := fun _ => False) k) fun _ g => g.elim
theorem Laid.stkW {w : World} {A : Nat → Addr} (h : Laid w A) : StkLaid w A := ⟨h.v1, h.v3, h.v4, h.v5, h.v6, h.v7⟩

theorem wf_of (d : Int) (h0 : -9223372036854775808 ≤ d) (h1 : d ≤ 9223372036854775807) : (Lit.int .i64 d).wf = true := by
  have h : IntKind.i64.min ≤ d := h0
  simp [Lit.wf, h]
  omega
/-- the last steps: slashed, freed, told -/
theorem waits_end {n k c p f a b : Int} (n1 : 1 ≤ n) (n2 : n ≤ 1099511627776) (k1 : 1 ≤ k) (kn : k ≤ n) (c0 : 0 ≤ c) (c1 : c ≤ 1000) (p0 : 0 ≤ p) (p1 : p ≤ 100) (ha : a = (n - k) * p / 100) (hb : b = if f ≤ c then k * p / 100 else 0) :
    (0 ≤ a ∧ a ≤ n - k ∧ 0 ≤ b ∧ b ≤ k) ∧
    (wS (uni (n - k) (n - k)) (uni k k) c).Ok ∧ (wS (uni (n - k) (n - k)) (uni k k) c).slashC 0 p = 0 ∧ (wS (uni (n - k) (n - k)) (uni k k) c).slashN 0 f p = a + b ∧ (wS (uni (n - k) (n - k)) (uni k k) c).slash 0 f p = wS (uni (n - k - a) (n - k)) (uni (k - b) k) c ∧
    (wS (uni (n - k - a) (n - k)) (uni (k - b) k) c).Ok ∧ (wS (uni (n - k - a) (n - k)) (uni (k - b) k) c).freeC 2 (c + 3) = 0 ∧ (wS (uni (n - k - a) (n - k)) (uni (k - b) k) c).freeN 2 (c + 3) = k - b ∧ (wS (uni (n - k - a) (n - k)) (uni (k - b) k) c).free 2 (c + 3) = wS (uni (n - k - a) (n - k)) (uni 0 0) c ∧
    (wS (uni (n - k - a) (n - k)) (uni 0 0) c).Ok ∧ (wS (uni (n - k - a) (n - k)) (uni 0 0) c).total = n - k - a ∧ ((wS (uni (n - k - a) (n - k)) (uni 0 0) c).P 0).val 2 = n - k - a := by
  have ba : 0 ≤ a ∧ a ≤ n - k := by
    subst ha
    have g1 : (n - k) * p ≤ (n - k) * 100 := Int.mul_le_mul_of_nonneg_left p1 (by omega)
    have g0 : 0 ≤ (n - k) * p := Int.mul_nonneg (by omega) p0
    omega
  have bb : 0 ≤ b ∧ b ≤ k := by
    subst hb
    have g1 : k * p ≤ k * 100 := Int.mul_le_mul_of_nonneg_left p1 (by omega)
    have g0 : 0 ≤ k * p := Int.mul_nonneg (by omega) p0
    split <;> omega
  have cy : Cy c := ⟨c0, by omega⟩
  have oP : (uni (n - k) (n - k)).Ok := uni_ok _ _ (by omega) (by omega) (by omega) (by omega) (fun h => h)
  have oW : (uni k k).Ok := uni_ok _ _ (by omega) (by omega) (by omega) (by omega) (fun h => h)
  have oQ : (uni (n - k - a) (n - k)).Ok := uni_ok _ _ (by omega) (by omega) (by omega) (by omega) (by omega)
  have oV : (uni (k - b) k).Ok := uni_ok _ _ (by omega) (by omega) (by omega) (by omega) (by omega)
  have o0 : (uni 0 0).Ok := uni_ok _ _ (by omega) (by omega) (by omega) (by omega) (by omega)
  have sP : (uni (n - k) (n - k)).slashN p = a := ((St.slash_yes ⟨p0, p1⟩).2.1).trans ha.symm
  have sW : (uni k k).slashN p = k * p / 100 := (St.slash_yes ⟨p0, p1⟩).2.1
  obtain ⟨s1, s2, s3⟩ := wS_slash (P := uni (n - k) (n - k)) (W := uni k k) (c := c) (f := f) ⟨p0, p1⟩
  have eb : (if f ≤ c then (uni k k).slashN p else 0) = b := by rw [sW]; exact hb.symm
  have eW : (if f ≤ c then (uni k k).slash p else uni k k) = uni (k - b) k := by
    subst hb
    split
    · rw [uni_slash, sW]
    · rw [Int.sub_zero]
  obtain ⟨l1, l2, l3⟩ := uni_leave (t := k - b) (u := k) (by omega) (by omega)
  obtain ⟨f1, f2, f3⟩ := wS_late (P := uni (n - k - a) (n - k)) (W := uni (k - b) k) (c := c) ⟨by omega, by omega⟩ l1
  refine ⟨⟨ba.1, ba.2, bb.1, bb.2⟩, wS_ok oP oW cy, s1, by rw [s2, sP, eb], by rw [s3, uni_slash, sP, eW], wS_ok oQ oV cy, f1, by rw [f2, l2], by rw [f3, l3], wS_ok oQ o0 cy, ?_, ?_⟩
  · rw [wS_total]
    show n - k - a + (0 : Int) = _
    omega
  · rw [wS_P]
    by_cases h : 0 < n - k
    · exact uni_val _ _ h
    · rw [St.val_none 2 (by rw [uni_A]; omega)]
      omega

set_option maxRecDepth 100000 in
set_option maxHeartbeats 4000000 in
theorem stakeWaits_both (n k c p f : Int) (wc : (Lit.int .i64 c).wf = true) (wf : (Lit.int .i64 f).wf = true) (A : Nat → Addr) (w : World) (hL : Laid w A) (n1 : 1 ≤ n) (n2 : n ≤ 1099511627776) (k1 : 1 ≤ k) (kn : k ≤ n) (c0 : 0 ≤ c) (c1 : c ≤ 1000) (p0 : 0 ≤ p) (p1 : p ≤ 100) (hf : f ≤ c) :
    Calls Tryd.prog 6 #[.int .i64 n, .int .i64 k, .int .i64 c, .int .i64 p, .int .i64 f] w fun e w' => e = .returned (.bool true) ∧ Below w.heap.size w w' := by
  obtain ⟨r1, r2, r3, r4⟩ := wS_first n1 n2 k1 kn (show Cy c from ⟨c0, by omega⟩)
  obtain ⟨⟨a0, a1, b0, b1⟩, o3, q1, q2, q3, o4, q4, q5, q6, o5, q7, q8⟩ := waits_end (f := f) (b := k * p / 100) n1 n2 k1 kn c0 c1 p0 p1 rfl (if_pos hf).symm
  have o1 := Sk.none_ok.reg 0
  have o2 := o1.join 2 0 n
  have early : ∀ d, Hid (c ≤ d → d ≤ c + 2 → (wS (uni (n - k) (n - k)) (uni k k) c).freeC 2 d = 4 ∧ (wS (uni (n - k) (n - k)) (uni k k) c).freeN 2 d = 0 ∧ (wS (uni (n - k) (n - k)) (uni k k) c).free 2 d = wS (uni (n - k) (n - k)) (uni k k) c) := fun d h1 h2 =>
    wS_early (uni_ok _ _ (by omega) (by omega) (by omega) (by omega) (fun h => h)) (uni_ok _ _ (by omega) (by omega) (by omega) (by omega) (fun h => h)) ⟨c0, by omega⟩ ⟨by omega, by omega⟩ h2
  have ww : ((wS (uni (n - k) (n - k)) (uni k k) c).W 0 c).val 2 = k := by rw [wS_W]; exact uni_val k k (by omega)
  have kl : (wS (uni (n - k) (n - k)) (uni k k) c).K.length ≤ 900 := by show 1 ≤ 900; decide
  have kl4 : (wS (uni (n - k - (n - k) * p / 100) (n - k)) (uni (k - k * p / 100) k) c).K.length ≤ 900 := by show 1 ≤ 900; decide
  have kl5 : (wS (uni (n - k - (n - k) * p / 100) (n - k)) (uni 0 0) c).K.length ≤ 900 := by show 1 ≤ 900; decide
  generalize hz1 : Sk.none.reg 0 = S1 at *
  generalize hz2 : S1.join 2 0 n = S2 at *
  generalize wS (uni (n - k) (n - k)) (uni k k) c = S3 at *
  generalize wS (uni (n - k - (n - k) * p / 100) (n - k)) (uni (k - k * p / 100) k) c = S4 at *
  generalize wS (uni (n - k - (n - k) * p / 100) (n - k)) (uni 0 0) c = S5 at *
  have R1 := hide r1
  have R2 := hide r2
  have R3 := hide r3
  have R4 := hide r4
  have Z1 := hide hz1
  have Z2 := hide hz2
  have Q1 := hide q1
  have Q2 := hide q2
  have Q3 := hide q3
  have Q4 := hide q4
  have Q5 := hide q5
  have Q6 := hide q6
  have Q7 := hide q7
  have Q8 := hide q8
  have WW := hide ww
  clear r1 r2 r3 r4 hz1 hz2 q1 q2 q3 q4 q5 q6 q7 q8 ww
  go_enter Tryd.func6, Tryd.ntmps6
  go_wp2_with fail
  refine (staked_of A w hL.stkW).mono ?_
  rintro e w1 ⟨rfl, hB1⟩
  go_wp2_with fail
  refine (ps_new _).mono ?_
  rintro e w2 ⟨sb, F2, rfl, hP2, hf2, hB2⟩
  have M2 : Mine w.heap.size w w2 F2 := ⟨fun k hk => Nat.le_trans hB1.size (hf2 k hk), hB1.trans (hB2.mono hB1.size), Nat.le_trans hB1.size hB2.size⟩
  clear hB1 hB2 hf2
  go_wp2_with fail
  refine (ps_register F2 sb _ Sk.none_ok 0 (by omega) 0 A w2 (hL.below M2.below).stkW hP2).mono ?_
  rintro e w3 ⟨ev, F3, rfl, hE, hP3, hV⟩
  obtain rfl := hE.nil R1.out
  rw [Z1.out] at hP3
  have M3 := M2.next hV
  clear hE hP2 M2 hV
  go_wp2_with fail
  refine (ps_join F3 sb S1 o1 _ (by omega) 2 0 n (by decide) A w3 (hL.below M3.below).stkW hP3).mono ?_
  rintro e w4 ⟨ev, F4, rfl, hE, hP4, hV⟩
  obtain rfl := hE.nil R2.out
  rw [Z2.out] at hP4
  have M4 := M3.next hV
  clear hE hP3 M3 hV
  go_wp2_with fail
  refine (ps_leave F4 sb S2 o2 _ (by omega) 2 0 k c (by decide) wc A w4 (hL.below M4.below).stkW hP4).mono ?_
  rintro e w5 ⟨ev, F5, rfl, hE, hP5, hV⟩
  obtain rfl := hE.nil R3.out
  rw [R4.out] at hP5
  have M5 := M4.next hV
  clear hE hP4 M4 hV
  go_wp2_with fail
  go_loopw [13] (fun i wr => ∃ (d : Int) (g : Nat) (F : Nat → Prop), c ≤ d ∧ d ≤ c + 3 ∧ i = .int .i64 d ∧ (g : Int) ≤ 12 + 4 * (d - c) ∧ PSk F wr sb S3 g ∧ Mine w.heap.size w wr F) (fun i _ => (c + 3 - intOf i).toNat)
  case atStart => exact ⟨c, 12, F5, by omega, by omega, rfl, by omega, hP5, M5⟩
  case round =>
    clear hP5 M5
    obtain ⟨d, g, F, d0, d1, rfl, hg, hP, hM⟩ := hrel
    by_cases hd : d ≤ c + 2
    · obtain ⟨e1, e2, e3⟩ := (early d).out d0 hd
      have wd := wf_of d (by omega) (by omega)
      have C := ps_free F sb S3 o3 kl g (by omega) 2 d (by decide) wd A wr (hL.below hM.below).stkW hP
      rw [e1, e2, e3] at C
      clear e1 e2 e3 hP
      go_wp2_with (go_at_call 38; refine C.mono ?_; rintro e w6 ⟨ev, F6, rfl, hE, hP6, hV⟩)
      have M6 := hM.next hV
      clear C hM hV
      refine (coded2_of (hE.tells (hL.below M6.below))).mono ?_
      rintro e w7 ⟨rfl, hB7⟩
      have hP7 := hP6.nextM hB7
      have M7 := M6.nextB hB7
      have d2 : (((S3.W 0 c).val 2) != k) = false := by rw [WW.out]; simp
      clear hP6 M6 hB7 hE
      go_wp2_with fail
      refine (ps_waits F6 sb S3 o3 _ 2 0 c (by decide) wc _ hP7).mono ?_
      rintro e w8 ⟨rfl, hB8⟩
      have hP8 := hP7.nextM hB8
      have M8 := M7.nextB hB8
      clear hB8 hP7 M7
      go_wp2_with fail
      go_roundw
      case rel => exact ⟨d + 1, g + 4, F6, by omega, by omega, by go_num, by omega, hP8, M8⟩
      case measure => simp [intOf]; omega
    · obtain rfl : d = c + 3 := by omega
      have C := ps_slash F sb S3 o3 kl g (by omega) 0 f p wf A wr (hL.below hM.below).stkW hP
      rw [Q1.out, Q2.out, Q3.out] at C
      clear hP hd d0 d1
      go_wp2_with fail
      refine C.mono ?_
      rintro e w6 ⟨ev, F6, rfl, hE, hP6, hV⟩
      obtain rfl := hE.nil rfl
      have M6 := hM.next hV
      have D := ps_free F6 sb S4 o4 kl4 _ (by omega) 2 (c + 3) (by decide) (wf_of _ (by omega) (by omega)) A w6 (hL.below M6.below).stkW hP6
      rw [Q4.out, Q5.out, Q6.out, show c + 3 = c + 2 + 1 by omega] at D
      have g0 : 0 ≤ (n - k) * p := Int.mul_nonneg (by omega) p0
      have g1 : (n - k) * p ≤ (n - k) * 100 := Int.mul_le_mul_of_nonneg_left p1 (by omega)
      have g2 : (n - k) * p ≤ 109951162777600 := by omega
      have g3 : 0 ≤ k * p := Int.mul_nonneg (by omega) p0
      have g4 : k * p ≤ k * 100 := Int.mul_le_mul_of_nonneg_left p1 (by omega)
      have g5 : k * p ≤ 109951162777600 := by omega
      clear C hE hP6 hM hV g1 g4
      go_wp2_with fail
      refine D.mono ?_
      rintro e w7 ⟨ev, F7, rfl, hE, hP7, hV⟩
      obtain rfl := hE.nil rfl
      have M7 := M6.next hV
      have d3 : (S5.total == n - k - (n - k) * p / 100) = true := by rw [Q7.out]; simp
      have d4 : ((S5.P 0).val 2 == S5.total) = true := by rw [Q7.out, Q8.out]; simp
      clear D hE M6 hV
      go_wp2_with fail
      refine (ps_total F7 sb S5 o5 kl5 _ w7 hP7).mono ?_
      rintro e w8 ⟨rfl, hB8⟩
      have hP8 := hP7.nextM hB8
      have M8 := M7.nextB hB8
      clear hP7 M7 hB8
      go_wp2_with fail
      refine (ps_value F7 sb S5 o5 _ 2 0 (by decide) w8 hP8).mono ?_
      rintro e w9 ⟨rfl, m, hw⟩
      have hP9 := (by rw [hw]; exact hP8.keptP (G := fun _ => False) ((KeptP.refl _ _).drewN m) (fun _ g => g.elim) : PSk F7 w9 sb S5 _)
      have M9 := (by rw [hw]; exact M8.drewN m : Mine w.heap.size w w9 F7)
      clear hw hP8 M8
      go_wp2_with fail
      refine (ps_total F7 sb S5 o5 kl5 _ w9 hP9).mono ?_
      rintro e w10 ⟨rfl, hB10⟩
      have M10 := M9.nextB hB10
      clear hP9 M9 hB10
      go_wp2_with fail
      go_ret
      exact ⟨rfl, M10.below⟩
set_option maxRecDepth 100000 in
set_option maxHeartbeats 4000000 in
theorem stakeWaits_one (n k c p f : Int) (wc : (Lit.int .i64 c).wf = true) (wf : (Lit.int .i64 f).wf = true) (A : Nat → Addr) (w : World) (hL : Laid w A) (n1 : 1 ≤ n) (n2 : n ≤ 1099511627776) (k1 : 1 ≤ k) (kn : k ≤ n) (c0 : 0 ≤ c) (c1 : c ≤ 1000) (p0 : 0 ≤ p) (p1 : p ≤ 100) (hf : ¬ f ≤ c) :
    Calls Tryd.prog 6 #[.int .i64 n, .int .i64 k, .int .i64 c, .int .i64 p, .int .i64 f] w fun e w' => e = .returned (.bool true) ∧ Below w.heap.size w w' := by
  obtain ⟨r1, r2, r3, r4⟩ := wS_first n1 n2 k1 kn (show Cy c from ⟨c0, by omega⟩)
  obtain ⟨⟨a0, a1, b0, b1⟩, o3, q1, q2, q3, o4, q4, q5, q6, o5, q7, q8⟩ := waits_end (f := f) (b := 0) n1 n2 k1 kn c0 c1 p0 p1 rfl (if_neg hf).symm
  have o1 := Sk.none_ok.reg 0
  have o2 := o1.join 2 0 n
  have early : ∀ d, Hid (c ≤ d → d ≤ c + 2 → (wS (uni (n - k) (n - k)) (uni k k) c).freeC 2 d = 4 ∧ (wS (uni (n - k) (n - k)) (uni k k) c).freeN 2 d = 0 ∧ (wS (uni (n - k) (n - k)) (uni k k) c).free 2 d = wS (uni (n - k) (n - k)) (uni k k) c) := fun d h1 h2 =>
    wS_early (uni_ok _ _ (by omega) (by omega) (by omega) (by omega) (fun h => h)) (uni_ok _ _ (by omega) (by omega) (by omega) (by omega) (fun h => h)) ⟨c0, by omega⟩ ⟨by omega, by omega⟩ h2
  have ww : ((wS (uni (n - k) (n - k)) (uni k k) c).W 0 c).val 2 = k := by rw [wS_W]; exact uni_val k k (by omega)
  have kl : (wS (uni (n - k) (n - k)) (uni k k) c).K.length ≤ 900 := by show 1 ≤ 900; decide
  have kl4 : (wS (uni (n - k - (n - k) * p / 100) (n - k)) (uni (k - 0) k) c).K.length ≤ 900 := by show 1 ≤ 900; decide
  have kl5 : (wS (uni (n - k - (n - k) * p / 100) (n - k)) (uni 0 0) c).K.length ≤ 900 := by show 1 ≤ 900; decide
  generalize hz1 : Sk.none.reg 0 = S1 at *
  generalize hz2 : S1.join 2 0 n = S2 at *
  generalize wS (uni (n - k) (n - k)) (uni k k) c = S3 at *
  generalize wS (uni (n - k - (n - k) * p / 100) (n - k)) (uni (k - 0) k) c = S4 at *
  generalize wS (uni (n - k - (n - k) * p / 100) (n - k)) (uni 0 0) c = S5 at *
  have R1 := hide r1
  have R2 := hide r2
  have R3 := hide r3
  have R4 := hide r4
  have Z1 := hide hz1
  have Z2 := hide hz2
  have Q1 := hide q1
  have Q2 := hide q2
  have Q3 := hide q3
  have Q4 := hide q4
  have Q5 := hide q5
  have Q6 := hide q6
  have Q7 := hide q7
  have Q8 := hide q8
  have WW := hide ww
  clear r1 r2 r3 r4 hz1 hz2 q1 q2 q3 q4 q5 q6 q7 q8 ww
  go_enter Tryd.func6, Tryd.ntmps6
  go_wp2_with fail
  refine (staked_of A w hL.stkW).mono ?_
  rintro e w1 ⟨rfl, hB1⟩
  go_wp2_with fail
  refine (ps_new _).mono ?_
  rintro e w2 ⟨sb, F2, rfl, hP2, hf2, hB2⟩
  have M2 : Mine w.heap.size w w2 F2 := ⟨fun k hk => Nat.le_trans hB1.size (hf2 k hk), hB1.trans (hB2.mono hB1.size), Nat.le_trans hB1.size hB2.size⟩
  clear hB1 hB2 hf2
  go_wp2_with fail
  refine (ps_register F2 sb _ Sk.none_ok 0 (by omega) 0 A w2 (hL.below M2.below).stkW hP2).mono ?_
  rintro e w3 ⟨ev, F3, rfl, hE, hP3, hV⟩
  obtain rfl := hE.nil R1.out
  rw [Z1.out] at hP3
  have M3 := M2.next hV
  clear hE hP2 M2 hV
  go_wp2_with fail
  refine (ps_join F3 sb S1 o1 _ (by omega) 2 0 n (by decide) A w3 (hL.below M3.below).stkW hP3).mono ?_
  rintro e w4 ⟨ev, F4, rfl, hE, hP4, hV⟩
  obtain rfl := hE.nil R2.out
  rw [Z2.out] at hP4
  have M4 := M3.next hV
  clear hE hP3 M3 hV
  go_wp2_with fail
  refine (ps_leave F4 sb S2 o2 _ (by omega) 2 0 k c (by decide) wc A w4 (hL.below M4.below).stkW hP4).mono ?_
  rintro e w5 ⟨ev, F5, rfl, hE, hP5, hV⟩
  obtain rfl := hE.nil R3.out
  rw [R4.out] at hP5
  have M5 := M4.next hV
  clear hE hP4 M4 hV
  go_wp2_with fail
  go_loopw [13] (fun i wr => ∃ (d : Int) (g : Nat) (F : Nat → Prop), c ≤ d ∧ d ≤ c + 3 ∧ i = .int .i64 d ∧ (g : Int) ≤ 12 + 4 * (d - c) ∧ PSk F wr sb S3 g ∧ Mine w.heap.size w wr F) (fun i _ => (c + 3 - intOf i).toNat)
  case atStart => exact ⟨c, 12, F5, by omega, by omega, rfl, by omega, hP5, M5⟩
  case round =>
    clear hP5 M5
    obtain ⟨d, g, F, d0, d1, rfl, hg, hP, hM⟩ := hrel
    by_cases hd : d ≤ c + 2
    · obtain ⟨e1, e2, e3⟩ := (early d).out d0 hd
      have wd := wf_of d (by omega) (by omega)
      have C := ps_free F sb S3 o3 kl g (by omega) 2 d (by decide) wd A wr (hL.below hM.below).stkW hP
      rw [e1, e2, e3] at C
      clear e1 e2 e3 hP
      go_wp2_with (go_at_call 38; refine C.mono ?_; rintro e w6 ⟨ev, F6, rfl, hE, hP6, hV⟩)
      have M6 := hM.next hV
      clear C hM hV
      refine (coded2_of (hE.tells (hL.below M6.below))).mono ?_
      rintro e w7 ⟨rfl, hB7⟩
      have hP7 := hP6.nextM hB7
      have M7 := M6.nextB hB7
      have d2 : (((S3.W 0 c).val 2) != k) = false := by rw [WW.out]; simp
      clear hP6 M6 hB7 hE
      go_wp2_with fail
      refine (ps_waits F6 sb S3 o3 _ 2 0 c (by decide) wc _ hP7).mono ?_
      rintro e w8 ⟨rfl, hB8⟩
      have hP8 := hP7.nextM hB8
      have M8 := M7.nextB hB8
      clear hB8 hP7 M7
      go_wp2_with fail
      go_roundw
      case rel => exact ⟨d + 1, g + 4, F6, by omega, by omega, by go_num, by omega, hP8, M8⟩
      case measure => simp [intOf]; omega
    · obtain rfl : d = c + 3 := by omega
      have C := ps_slash F sb S3 o3 kl g (by omega) 0 f p wf A wr (hL.below hM.below).stkW hP
      rw [Q1.out, Q2.out, Q3.out] at C
      clear hP hd d0 d1
      go_wp2_with fail
      refine C.mono ?_
      rintro e w6 ⟨ev, F6, rfl, hE, hP6, hV⟩
      obtain rfl := hE.nil rfl
      have M6 := hM.next hV
      have D := ps_free F6 sb S4 o4 kl4 _ (by omega) 2 (c + 3) (by decide) (wf_of _ (by omega) (by omega)) A w6 (hL.below M6.below).stkW hP6
      rw [Q4.out, Q5.out, Q6.out, show c + 3 = c + 2 + 1 by omega] at D
      have g0 : 0 ≤ (n - k) * p := Int.mul_nonneg (by omega) p0
      have g1 : (n - k) * p ≤ (n - k) * 100 := Int.mul_le_mul_of_nonneg_left p1 (by omega)
      have g2 : (n - k) * p ≤ 109951162777600 := by omega
      have g3 : 0 ≤ k * p := Int.mul_nonneg (by omega) p0
      have g4 : k * p ≤ k * 100 := Int.mul_le_mul_of_nonneg_left p1 (by omega)
      have g5 : k * p ≤ 109951162777600 := by omega
      clear C hE hP6 hM hV g1 g4
      go_wp2_with fail
      refine D.mono ?_
      rintro e w7 ⟨ev, F7, rfl, hE, hP7, hV⟩
      obtain rfl := hE.nil rfl
      have M7 := M6.next hV
      have d3 : (S5.total == n - k - (n - k) * p / 100) = true := by rw [Q7.out]; simp
      have d4 : ((S5.P 0).val 2 == S5.total) = true := by rw [Q7.out, Q8.out]; simp
      clear D hE M6 hV
      go_wp2_with fail
      refine (ps_total F7 sb S5 o5 kl5 _ w7 hP7).mono ?_
      rintro e w8 ⟨rfl, hB8⟩
      have hP8 := hP7.nextM hB8
      have M8 := M7.nextB hB8
      clear hP7 M7 hB8
      go_wp2_with fail
      refine (ps_value F7 sb S5 o5 _ 2 0 (by decide) w8 hP8).mono ?_
      rintro e w9 ⟨rfl, m, hw⟩
      have hP9 := (by rw [hw]; exact hP8.keptP (G := fun _ => False) ((KeptP.refl _ _).drewN m) (fun _ g => g.elim) : PSk F7 w9 sb S5 _)
      have M9 := (by rw [hw]; exact M8.drewN m : Mine w.heap.size w w9 F7)
      clear hw hP8 M8
      go_wp2_with fail
      refine (ps_total F7 sb S5 o5 kl5 _ w9 hP9).mono ?_
      rintro e w10 ⟨rfl, hB10⟩
      have M10 := M9.nextB hB10
      clear hP9 M9 hB10
      go_wp2_with fail
      go_ret
      exact ⟨rfl, M10.below⟩
end Go.Proofs.YtlhffdmhbplpjabDoor
