/-
  The law ChainLater of package bakehouselaw3, walked: for every seed, owner, baker and amount it returns true.
-/
import Derived.Test.YtaihcceobnfmhaaDoorChainFirstX
namespace Go.Proofs.YtaihcceobnfmhaaDoor
open Go.RowKit

theorem Ch.Fit.few' {C : Ch} {i : Nat} (h : C.Fit i) (hi : i ≤ 400) : C.Few := by
  have := h.y
  have := h.v
  exact ⟨Nat.le_trans h.k hi, Nat.le_trans h.l hi, by omega, by omega⟩
/-- both run alike: their pictures, their seed, their cycle, their level -/
structure Alike (A B : Ch) (i : Nat) : Prop where
  a : A.Ok
  b : B.Ok
  fa : A.Fit (i + 1)
  fb : B.Fit (i + 1)
  va : A.lev = i
  vb : B.lev = i
  pa : A.First
  pb : B.First
  s : A.seed = B.seed
theorem Alike.turn {A B : Ch} {i : Nat} (h : Alike A B i) (hi : i < 12) {x y : Int} (tx : Turn 3 A.pic A.seed A.cyc A.lev 0 x) (ty : Turn 3 B.pic B.seed B.cyc B.lev 0 y) : x = y := by
  have ya := h.fa.y
  have yb := h.fb.y
  have va := h.va
  have vb := h.vb
  rw [h.pa.turn (by omega)] at tx
  rw [h.pb.turn (by omega), ← h.s, yb, vb] at ty
  rw [ya, va] at tx
  exact tx.one ty
theorem Alike.next {A B : Ch} {i : Nat} (h : Alike A B i) (x y : Int) : Alike (A.bake x) (B.bake y) (i + 1) where
  a := (h.a.bake x).1
  b := (h.b.bake y).1
  fa := h.fa.bake x
  fb := h.fb.bake y
  va := by show (A.paid x).stepped.lev = _; rw [Ch.stepped_lev, (A.paid_same x).2.1, h.va]
  vb := by show (B.paid y).stepped.lev = _; rw [Ch.stepped_lev, (B.paid_same y).2.1, h.vb]
  pa := h.pa.bake h.a x
  pb := h.pb.bake h.b y
  s := by rw [(A.bake_pics x).2, (B.bake_pics y).2]; exact h.s
theorem alike_first (seed : Nat) (hs : seed < W64) (o b n : Int) : Alike (chNew seed) ((chNew seed).stake o b n) 0 where
  a := chNew_ok seed hs
  b := (chNew_ok seed hs).stake o b n
  fa := (chNew_fit seed).more (Nat.zero_le _)
  fb := (chNew_fit seed).stake o b n
  va := rfl
  vb := ((chNew seed).stake_same o b n).2.2.2
  pa := chNew_first seed
  pb := fun j hj => by rw [((chNew seed).stake_same o b n).1]; exact chNew_first seed j hj
  s := ((chNew seed).stake_same o b n).2.1.symm
set_option maxRecDepth 100000 in
set_option maxHeartbeats 1000000 in
theorem chainLater_out (seed : Nat) (o b n m : Int) (h : ¬ (Own o ∧ Bk b)) (A : Nat → Addr) (w : World) (hL : ChLaid8 w A) :
    Calls Tryd.prog 3 #[.int .u64 seed, .int .i64 o, .int .i64 b, .int .i64 n, .int .i64 m] w fun e w' => e = .returned (.bool true) ∧ Below w.heap.size w w' := by
  by_cases o0 : 0 ≤ o
  · by_cases o6 : o < 6
    · by_cases b0 : 0 ≤ b
      · have b3 : ¬ b < 3 := fun g => h ⟨⟨o0, o6⟩, b0, g⟩
        clear h
        go_enter Tryd.func3, Tryd.ntmps3
        go_wp2_with fail
        refine (begun_of A w hL).mono ?_
        rintro e w1 ⟨rfl, hB1⟩
        go_wp2_with fail
        go_ret
        exact ⟨rfl, hB1⟩
      · clear h
        go_enter Tryd.func3, Tryd.ntmps3
        go_wp2_with fail
        refine (begun_of A w hL).mono ?_
        rintro e w1 ⟨rfl, hB1⟩
        go_wp2_with fail
        go_ret
        exact ⟨rfl, hB1⟩
    · clear h
      go_enter Tryd.func3, Tryd.ntmps3
      go_wp2_with fail
      refine (begun_of A w hL).mono ?_
      rintro e w1 ⟨rfl, hB1⟩
      go_wp2_with fail
      go_ret
      exact ⟨rfl, hB1⟩
  · clear h
    go_enter Tryd.func3, Tryd.ntmps3
    go_wp2_with fail
    refine (begun_of A w hL).mono ?_
    rintro e w1 ⟨rfl, hB1⟩
    go_wp2_with fail
    go_ret
    exact ⟨rfl, hB1⟩
set_option maxRecDepth 100000 in
set_option maxHeartbeats 1000000 in
theorem chainLater_far (seed : Nat) (o b n m : Int) (o0 : 0 ≤ o) (o6 : o < 6) (b0 : 0 ≤ b) (b3 : b < 3) (h : ¬ ((1 ≤ n ∧ n ≤ 5000) ∧ 0 ≤ m ∧ m ≤ 12)) (A : Nat → Addr) (w : World) (hL : ChLaid8 w A) :
    Calls Tryd.prog 3 #[.int .u64 seed, .int .i64 o, .int .i64 b, .int .i64 n, .int .i64 m] w fun e w' => e = .returned (.bool true) ∧ Below w.heap.size w w' := by
  by_cases n1 : 1 ≤ n
  · by_cases n5 : n ≤ 5000
    · by_cases m0 : 0 ≤ m
      · have m1 : ¬ m ≤ 12 := fun g => h ⟨⟨n1, n5⟩, m0, g⟩
        clear h
        go_enter Tryd.func3, Tryd.ntmps3
        go_wp2_with fail
        refine (begun_of A w hL).mono ?_
        rintro e w1 ⟨rfl, hB1⟩
        go_wp2_with fail
        go_ret
        exact ⟨rfl, hB1⟩
      · clear h
        go_enter Tryd.func3, Tryd.ntmps3
        go_wp2_with fail
        refine (begun_of A w hL).mono ?_
        rintro e w1 ⟨rfl, hB1⟩
        go_wp2_with fail
        go_ret
        exact ⟨rfl, hB1⟩
    · clear h
      go_enter Tryd.func3, Tryd.ntmps3
      go_wp2_with fail
      refine (begun_of A w hL).mono ?_
      rintro e w1 ⟨rfl, hB1⟩
      go_wp2_with fail
      go_ret
      exact ⟨rfl, hB1⟩
  · clear h
    go_enter Tryd.func3, Tryd.ntmps3
    go_wp2_with fail
    refine (begun_of A w hL).mono ?_
    rintro e w1 ⟨rfl, hB1⟩
    go_wp2_with fail
    go_ret
    exact ⟨rfl, hB1⟩
set_option maxRecDepth 100000 in
set_option maxHeartbeats 4000000 in
theorem chainLater_in (seed : Nat) (hs : seed < W64) (o b n m : Int) (o0 : 0 ≤ o) (o6 : o < 6) (b0 : 0 ≤ b) (b3 : b < 3) (n1 : 1 ≤ n) (n5 : n ≤ 5000) (m0 : 0 ≤ m) (m1 : m ≤ 12) (A : Nat → Addr) (w : World) (hL : ChLaid8 w A) :
    Calls Tryd.prog 3 #[.int .u64 seed, .int .i64 o, .int .i64 b, .int .i64 n, .int .i64 m] w fun e w' => e = .returned (.bool true) ∧ Below w.heap.size w w' := by
  have SC := hide (chNew_stakeC seed (o := o) (b := b) (n := n) ⟨o0, o6⟩ ⟨b0, b3⟩ n1 n5)
  have AL := alike_first seed hs o b n
  have wo : (Lit.int .i64 o).wf = true := WalkArith.wf_i64 (by omega)
  go_enter Tryd.func3, Tryd.ntmps3
  go_wp2_with fail
  refine (begun_of A w hL).mono ?_
  rintro e w1 ⟨rfl, hB1⟩
  go_wp2_with fail
  refine (pch_new seed hs A w1 (hL.below hB1)).mono ?_
  rintro e w2 ⟨ca, F2, rfl, h2, hF2, hB2⟩
  go_wp2_with fail
  refine (pch_new seed hs A w2 (hL.below (hB1.trans (hB2.mono hB1.size)))).mono ?_
  rintro e w3 ⟨cb, G3, rfl, k3, hG3, hB3⟩
  have B12 := hB1.trans (hB2.mono hB1.size)
  have W3 : Sides w.heap.size w w3 F2 G3 := ⟨fun k hk hg => by have := h2.lt k hk; have := hG3 k hg; omega, fun k hk => Nat.le_trans hB1.size (hF2 k hk), fun k hk => Nat.le_trans B12.size (hG3 k hk), B12.trans (hB3.mono B12.size), Nat.le_trans B12.size hB3.size⟩
  have h3 := h2.nextB hB3
  clear h2 hF2 hG3 hB1 hB2 hB3 B12
  go_wp2_with fail
  refine (pch_stake G3 cb (chNew seed) (chNew_ok seed hs) (chNew_few seed) 10000 (by omega) o b n wo A w3 (hL.below W3.below) k3).mono ?_
  rintro e w4 ⟨ev, G4, rfl, hE, k4, M4⟩
  obtain rfl := hE.nil SC.out
  have h4 : PCh F2 w4 ca (chNew seed) 10000 := h3.keptP M4.kept (fun k hg hf => W3.apart k hf hg)
  have W4 := W3.two h3.lt M4
  clear hE h3 k3 W3 M4 SC
  generalize hcs : (chNew seed).stake o b n = D at *
  generalize chNew seed = C at *
  clear hcs
  go_wp2_with fail
  go_loopw [14] (fun i wr => ∃ (k g g' : Nat) (X Y : Ch) (F G : Nat → Prop), (k : Int) ≤ m ∧ g ≤ 10000 + 2000 * k ∧ g' ≤ 10000 + 2000 * k + 2000 ∧ i = .int .i64 k ∧ Alike X Y k ∧ PCh F wr ca X g ∧ PCh G wr cb Y g' ∧ Sides w.heap.size w wr F G) (fun i _ => (m - intOf i).toNat)
  case atStart => exact ⟨0, 10000, 10000 + 2000, C, D, F2, G4, m0, Nat.le_refl _, Nat.le_refl _, rfl, AL, h4, k4, W4⟩
  case round =>
    obtain ⟨k, g, g', X, Y, F, G, hk, hg, hg', rfl, hA, hX, hY, hW⟩ := hrel
    clear h4 k4 W4 AL
    by_cases hlt : (k : Int) < m
    · have hfa := hA.fa.few' (by omega)
      have hfb := hA.fb.few' (by omega)
      have ta := hA.fa.turn (by omega) (r := 0) (by omega) (by omega)
      have tb := hA.fb.turn (by omega) (r := 0) (by omega) (by omega)
      go_wp2_with fail
      refine (pch_turn F ca X hA.a hfa g 0 ta A wr (hL.below hW.below) hX).mono ?_
      rintro e w5 ⟨x, rfl, hx, hB5⟩
      have X5 := hX.nextB hB5
      have Y5 := hY.nextB hB5
      have W5 := hW.nextB hB5
      clear hX hY hW hB5
      go_wp2_with fail
      refine (pch_turn G cb Y hA.b hfb g' 0 tb A w5 (hL.below W5.below) Y5).mono ?_
      rintro e w6 ⟨y, rfl, hy, hB6⟩
      obtain rfl : x = y := hA.turn (by omega) hx hy
      have X6 := X5.nextB hB6
      have Y6 := Y5.nextB hB6
      have W6 := W5.nextB hB6
      have dd : (x != x) = false := by simp
      clear X5 Y5 W5 hB6 hx hy
      go_wp2_with fail
      refine (bakeTurn_yes F ca X hA.a hfa g (by omega) 0 ta A w6 (hL.below W6.below) X6).mono ?_
      rintro e w7 ⟨p, rfl, _, F7, X7, M7⟩
      have Y7 := Y6.keptP M7.kept W6.apart
      have W7 := W6.one Y6.lt M7
      clear X6 Y6 W6 M7
      go_wp2_with fail
      refine (bakeTurn_yes G cb Y hA.b hfb g' (by omega) 0 tb A w7 (hL.below W7.below) Y7).mono ?_
      rintro e w8 ⟨q, rfl, _, G8, Y8, M8⟩
      have X8 := X7.keptP M8.kept (fun k hg hf => W7.apart k hf hg)
      have W8 := W7.two X7.lt M8
      have AN := hA.next p q
      clear X7 Y7 W7 M8 hA
      go_wp2_with fail
      go_roundw
      case rel => exact ⟨k + 1, _, _, _, _, F7, G8, by omega, by omega, by omega, by go_num, AN, X8, Y8, W8⟩
      case measure => simp [intOf]; omega
    · have hB := hW.below
      clear hX hY hW hA
      go_wp2_with fail
      go_ret
      exact ⟨rfl, hB⟩
theorem chainLater_any (seed : Nat) (hs : seed < W64) (o b n m : Int) (A : Nat → Addr) (w : World) (hL : ChLaid8 w A) :
    Calls Tryd.prog 3 #[.int .u64 seed, .int .i64 o, .int .i64 b, .int .i64 n, .int .i64 m] w fun e w' => e = .returned (.bool true) ∧ Below w.heap.size w w' := by
  by_cases h : Own o ∧ Bk b
  · by_cases g : (1 ≤ n ∧ n ≤ 5000) ∧ 0 ≤ m ∧ m ≤ 12
    · exact chainLater_in seed hs o b n m h.1.1 h.1.2 h.2.1 h.2.2 g.1.1 g.1.2 g.2.1 g.2.2 A w hL
    · exact chainLater_far seed o b n m h.1.1 h.1.2 h.2.1 h.2.2 g A w hL
  · exact chainLater_out seed o b n m h A w hL
end Go.Proofs.YtaihcceobnfmhaaDoor
