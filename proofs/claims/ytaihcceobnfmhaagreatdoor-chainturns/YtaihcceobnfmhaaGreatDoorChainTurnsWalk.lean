/-
  The law ChainTurns of package bakehouselaw3, walked.
-/
import Derived.Test.YtaihcceobnfmhaaGreatDoorBegunX
import Derived.Test.YtaihcceobnfmhaaGreatDoorCoded3
import Derived.Test.YtaihcceobnfmhaaGreatDoorProgRightX
namespace Go.Proofs.YtaihcceobnfmhaaGreatDoor
open Go.RowKit

theorem pic0 : stakes0.pic 0 = 1000 ∧ stakes0.pic 1 = 1000 ∧ stakes0.pic 2 = 1000 := by decide
theorem pic0_ints (w : World) : Ints (w.alloc (.cells #[.int .i64 1000, .int .i64 1000, .int .i64 1000] 3)) w.heap.size 0 3 stakes0.pic := by
  intro i hi
  have h3 : i = 0 ∨ i = 1 ∨ i = 2 := by omega
  rcases h3 with rfl | rfl | rfl
  · rw [pic0.1]; exact cell_new _ _ _ _ _ _ rfl rfl
  · rw [pic0.2.1]; exact cell_new _ _ _ _ _ _ rfl rfl
  · rw [pic0.2.2]; exact cell_new _ _ _ _ _ _ rfl rfl
/-- what is staked behind the first block -/
theorem chNew_staked (seed : Nat) (hs : seed < W64) {k : Int} (hk : Bk k) : (((chNew seed).bake k).s.P k).T = 1000 + (chNew seed).bakeN k := by
  have b := chNew_baked seed hs k
  have st := Ch.stepped_in (C := (chNew seed).paid k) (by rw [((chNew seed).paid_same k).1]; exact b.2.1)
  show (((chNew seed).paid k).stepped.s.P k).T = _
  rw [st.2, chNew_pays seed hk]
  have py : (chNew seed).Payable k := by
    refine ⟨(chNew_rew seed).2, ?_⟩
    have h3 : k = 0 ∨ k = 1 ∨ k = 2 := by have := hk.1; have := hk.2; omega
    show stakes0.addC k (chNew 0).rew = 0
    rcases h3 with rfl | rfl | rfl
    · exact stakes0_add.1
    · exact stakes0_add.2.1
    · exact stakes0_add.2.2
  have pe : (chNew seed).paid k = { chNew seed with p := (chNew seed).p.grow (chNew seed).rew, s := (chNew seed).s.add k (chNew seed).rew } := if_pos py
  rw [pe]
  show ((stakes0.add k (chNew 0).rew).P k).T = 1000 + (chNew 0).rew
  have h3 : k = 0 ∨ k = 1 ∨ k = 2 := by have := hk.1; have := hk.2; omega
  rcases h3 with rfl | rfl | rfl <;> decide

set_option maxRecDepth 100000 in
set_option maxHeartbeats 1000000 in
theorem chainTurns_out (seed : Nat) (r b : Int) (h : ¬ (0 ≤ r ∧ r < 8)) (A : Nat → Addr) (w : World) (hL : Laid w A) :
    Calls Tryz.prog 3 #[.int .u64 seed, .int .i64 r, .int .i64 b] w fun e w' => e = .returned (.bool true) ∧ Below w.heap.size w w' := by
  by_cases r0 : 0 ≤ r
  · have r8 : ¬ r < 8 := by omega
    clear h
    go_enter Tryz.func3, Tryz.ntmps3
    go_wp2_with fail
    refine (begun_of A w hL.ch).mono ?_
    rintro e w1 ⟨rfl, hB1⟩
    go_wp2
    go_ret
    exact ⟨rfl, hB1⟩
  · clear h
    go_enter Tryz.func3, Tryz.ntmps3
    go_wp2_with fail
    refine (begun_of A w hL.ch).mono ?_
    rintro e w1 ⟨rfl, hB1⟩
    go_wp2
    go_ret
    exact ⟨rfl, hB1⟩
set_option maxRecDepth 100000 in
set_option maxHeartbeats 2000000 in
theorem chainTurns_in (seed : Nat) (hs : seed < W64) (r b : Int) (r0 : 0 ≤ r) (r8 : r < 8) (A : Nat → Addr) (w : World) (hL : Laid w A) :
    Calls Tryz.prog 3 #[.int .u64 seed, .int .i64 r, .int .i64 b] w fun e w' => e = .returned (.bool true) ∧ Below w.heap.size w w' := by
  have ok := chNew_ok seed hs
  have few := chNew_few seed
  have tr : TurnOk ((chNew seed).cyc : Int) ((chNew seed).lev : Int) r := ⟨by show 0 ≤ ((0 : Nat) : Int) ∧ ((0 : Nat) : Int) ≤ 1048576; decide, by show 0 ≤ ((0 : Nat) : Int) ∧ ((0 : Nat) : Int) ≤ 4194304; decide, r0, r8⟩
  go_enter Tryz.func3, Tryz.ntmps3
  go_wp2_with fail
  refine (begun_of A w hL.ch).mono ?_
  rintro e w1 ⟨rfl, hB1⟩
  go_wp2_with fail
  refine (pch_new seed hs A w1 (hL.ch.below hB1)).mono ?_
  rintro e w2 ⟨cb, F, rfl, h2, hF, hB2⟩
  have m2 : Mine w.heap.size w w2 F := ⟨fun k g => Nat.le_trans hB1.size (hF k g), hB1.trans (hB2.mono hB1.size), Nat.le_trans hB1.size hB2.size⟩
  clear hF hB2 hB1
  go_wp2_with fail
  refine (pch_turn F cb (chNew seed) ok few 10000 r tr A w2 (hL.ch.below m2.below) h2).mono ?_
  rintro e w3 ⟨k, rfl, hk, hB3⟩
  have h3 := h2.nextB hB3
  have m3 := m2.nextB hB3
  clear h2 m2 hB3
  go_wp2_with fail
  have hB4 : Below w3.heap.size w3 (w3.alloc (.cells #[.int .i64 1000, .int .i64 1000, .int .i64 1000] 3)) := (Below.refl _ _).alloc (Nat.le_refl _) _
  have I4 := pic0_ints w3
  have l4 : w3.heap.size < (w3.alloc (.cells #[.int .i64 1000, .int .i64 1000, .int .i64 1000] 3)).heap.size := by simp
  have h4 := h3.nextB hB4
  have m4 := m3.nextB hB4
  clear h3 m3 hB4
  generalize w3.alloc (.cells #[.int .i64 1000, .int .i64 1000, .int .i64 1000] 3) = w4 at *
  generalize w3.heap.size = n3 at *
  refine (rb_fine n3 0 3 3 seed stakes0.pic 0 0 r ⟨by decide, by decide, r0, r8⟩ hs w4 I4 l4 stakes0_pic.1 stakes0_pic.2).mono ?_
  rintro e w5 ⟨x, rfl, hx, hB5⟩
  obtain rfl : k = x := Turn.one hk hx
  have h5 := h4.nextB hB5
  have m5 := m4.nextB hB5
  have bk := Turn.bk ok hk
  clear h4 m4 hB5 I4 l4 hx
  by_cases hbk : b = k
  · obtain rfl : k = b := hbk.symm
    have t1 : (k != k) = false := by simp
    have pk := chNew_pays seed bk
    have rw0 := (chNew_rew seed).1
    have l1 := (chNew_rew seed).2
    rw [← pk] at rw0 l1
    have sp := ok.pos
    obtain ⟨q1, _, _⟩ := chNew_baked seed hs k
    have q4 := chNew_staked seed hs bk
    have x1 : (((((chNew seed).bake k).lev : Nat) : Int) == 1) = true := by rw [q1]; decide
    have x2 : ((((chNew seed).bake k).s.P k).T == 1000 + (chNew seed).bakeN k) = true := by rw [q4]; simp
    have ok2 := (ok.bake k).1.s
    clear pk q1 q4 hbk
    go_wp2_with fail
    refine (pch_bake_own F cb (chNew seed) ok few 10000 (by omega) k r tr (fun k' h' => Turn.one h' hk) A w5 (hL.ch.below m5.below) h5).mono ?_
    rintro e w6 ⟨ev, F6, rfl, hE, h6, M6⟩
    obtain rfl := hE.nil rfl
    have m6 := m5.next M6
    clear hE h5 m5 M6 hk
    generalize (chNew seed).bakeN k = bn at *
    generalize (chNew seed).bake k = D at *
    go_wp2_with fail
    refine (pch_level F6 cb D _ w6 h6).mono ?_
    rintro e w7 ⟨rfl, hB7⟩
    have h7 := h6.nextB hB7
    have m7 := m6.nextB hB7
    clear h6 m6 hB7
    go_wp2_with fail
    refine (pch_stakes F6 cb D _ w7 h7).mono ?_
    rintro e w8 ⟨sb, Fs, rfl, hs8, _, hB8⟩
    have m8 := m7.nextB hB8
    clear h7 m7 hB8
    go_wp2_with fail
    refine (ps_staked Fs sb D.s ok2 _ k w8 hs8).mono ?_
    rintro e w9 ⟨rfl, n9, hw⟩
    have m9 : Mine w.heap.size w w9 F6 := by rw [hw]; exact m8.drewN n9
    clear hw m8 hs8
    go_wp2_with fail
    go_ret
    exact ⟨rfl, m9.below⟩
  · have t1 : (b != k) = true := by rw [bne_iff_ne]; exact hbk
    have x1 : (((((chNew seed).lev : Nat) : Int)) == 0) = true := by show (((0 : Nat) : Int) == 0) = true; decide
    have T := fun k' (h' : Turn 3 (chNew seed).pic (chNew seed).seed (chNew seed).cyc (chNew seed).lev r k') (e : k' = b) => hbk (e.symm.trans (Turn.one h' hk))
    clear hbk
    go_wp2_with fail
    refine (pch_bake_other F cb (chNew seed) ok few 10000 b r tr T A w5 (hL.ch.below m5.below) h5).mono ?_
    rintro e w6 ⟨ev, F6, rfl, hE, h6, M6⟩
    have m6 := m5.next M6
    have tl := hE.tells (hL.below m6.below)
    clear hE h5 m5 M6 hk T
    generalize chNew seed = D at *
    go_wp2_with fail
    refine (coded3_of tl).mono ?_
    rintro e w7 ⟨rfl, hB7⟩
    have h7 := h6.nextB hB7
    have m7 := m6.nextB hB7
    clear h6 m6 hB7 tl
    go_wp2_with fail
    refine (pch_level F6 cb D _ w7 h7).mono ?_
    rintro e w8 ⟨rfl, hB8⟩
    have m8 := m7.nextB hB8
    clear h7 m7 hB8
    go_wp2_with fail
    go_ret
    exact ⟨rfl, m8.below⟩
theorem chainTurns_any (seed : Nat) (hs : seed < W64) (r b : Int) (A : Nat → Addr) (w : World) (hL : Laid w A) :
    Calls Tryz.prog 3 #[.int .u64 seed, .int .i64 r, .int .i64 b] w fun e w' => e = .returned (.bool true) ∧ Below w.heap.size w w' := by
  by_cases h : 0 ≤ r ∧ r < 8
  · exact chainTurns_in seed hs r b h.1 h.2 A w hL
  · exact chainTurns_out seed r b h A w hL
end Go.Proofs.YtaihcceobnfmhaaGreatDoor
