/-
  The document's chain by its contracts: a new one.
-/
import Derived.Test.YtaihcceobnfmhaaGreatDoorCoded2X
import Derived.Deep.RegionLaw
namespace Go.Proofs.YtaihcceobnfmhaaGreatDoor
open Go.RowKit

/-- a chain's parts, all new -/
theorem rch_first {B : Nat} {w : World} {cb pb pq sb kb : Nat} {seed : Nat} {G : Nat → Prop} (hG : ∀ k, G k → B ≤ k ∧ k ≠ cb ∧ k ≠ pb ∧ k ≠ pq ∧ k ≠ kb) (n1 : cb ≠ pb) (n2 : cb ≠ pq) (n3 : cb ≠ kb) (n4 : kb ≠ pb) (n5 : kb ≠ pq) (b1 : B ≤ cb) (b2 : B ≤ pb) (b3 : B ≤ pq) (b4 : B ≤ kb)
    (c0 : w.cell? ⟨cb, 0, none⟩ = some (.pointer (some ⟨pb, 0, none⟩))) (c1 : w.cell? ⟨cb, 1, none⟩ = some (.pointer (some ⟨sb, 0, none⟩))) (c2 : w.cell? ⟨cb, 2, none⟩ = some (.pointer (some ⟨kb, 0, none⟩))) (c3 : w.cell? ⟨cb, 3, none⟩ = some (.int .u64 seed))
    (c4 : w.cell? ⟨cb, 4, none⟩ = some (.int .i64 0)) (c5 : w.cell? ⟨cb, 5, none⟩ = some (.int .i64 0)) (c6 : w.cell? ⟨cb, 6, none⟩ = some (.int .i64 0)) (c7 : w.cell? ⟨cb, 7, none⟩ = some (.slice none 0 0)) (f : ∀ i, w.frozen? ⟨cb, i, none⟩ = false)
    (hp : RPu w pb pq none') (hs : RSk G w sb Sk.none) (hc : RCt (fun k => k = kb) w kb ⟨[], 0⟩) : ∃ F, RCh F w cb (ch0 seed) ∧ ∀ k, F k → B ≤ k := by
  have dg : ∀ k, Decidable (G k) := fun k => Classical.propDecidable _
  have t1 : ∀ k, (if k = cb then 1 else if k = pb ∨ k = pq then 2 else if k = kb then 4 else if G k then 3 else 0) = 3 ↔ G k := fun k => by
    constructor
    · intro e
      by_cases h1 : k = cb
      · rw [if_pos h1] at e; omega
      · rw [if_neg h1] at e
        by_cases h2 : k = pb ∨ k = pq
        · rw [if_pos h2] at e; omega
        · rw [if_neg h2] at e
          by_cases h3 : k = kb
          · rw [if_pos h3] at e; omega
          · rw [if_neg h3] at e
            by_cases h4 : G k
            · exact h4
            · rw [if_neg h4] at e; omega
    · intro g
      obtain ⟨_, a, b, c, d⟩ := hG k g
      rw [if_neg a, if_neg (by omega), if_neg d, if_pos g]
  have t4 : ∀ k, (if k = cb then 1 else if k = pb ∨ k = pq then 2 else if k = kb then 4 else if G k then 3 else 0) = 4 ↔ k = kb := fun k => by
    constructor
    · intro e
      by_cases h1 : k = cb
      · rw [if_pos h1] at e; omega
      · rw [if_neg h1] at e
        by_cases h2 : k = pb ∨ k = pq
        · rw [if_pos h2] at e; omega
        · rw [if_neg h2] at e
          by_cases h3 : k = kb
          · exact h3
          · rw [if_neg h3] at e
            split at e <;> omega
    · intro g
      rw [if_neg (by omega), if_neg (by omega), if_pos g]
  have lcb : cb < w.heap.size := cell_lt c0
  have lpb : pb < w.heap.size := cell_lt hp.c0
  have lpq : pq < w.heap.size := cell_lt (hp.s 0 (by omega))
  have lkb : kb < w.heap.size := hc.lt kb rfl
  refine ⟨fun k => (if k = cb then 1 else if k = pb ∨ k = pq then 2 else if k = kb then 4 else if G k then 3 else 0) ≠ 0, ⟨fun k => if k = cb then 1 else if k = pb ∨ k = pq then 2 else if k = kb then 4 else if G k then 3 else 0, pb, pq, sb, kb, .slice none 0 0, [], fun _ => Iff.rfl, ?_⟩, fun k hk => ?_⟩
  · exact { c0 := c0, c1 := c1, c2 := c2, c3 := c3, c4 := c4, c5 := c5, c6 := c6, c7 := c7, f := f, p := hp
            s := by rw [show (fun k => (if k = cb then 1 else if k = pb ∨ k = pq then 2 else if k = kb then 4 else if G k then 3 else 0) = 3) = G from funext fun k => propext (t1 k)]; exact hs
            c := by rw [show (fun k => (if k = cb then 1 else if k = pb ∨ k = pq then 2 else if k = kb then 4 else if G k then 3 else 0) = 4) = (fun k => k = kb) from funext fun k => propext (t4 k)]; exact hc
            own := World.ownsRow_nil _ _ _ _
            pic := fun i m W hm _ => by simp at hm
            tc := if_pos rfl
            tp := by
              show (if pb = cb then 1 else if pb = pb ∨ pb = pq then 2 else if pb = kb then 4 else if G pb then 3 else 0) = 2
              rw [if_neg n1.symm, if_pos (.inl rfl)]
            tq := by
              show (if pq = cb then 1 else if pq = pb ∨ pq = pq then 2 else if pq = kb then 4 else if G pq then 3 else 0) = 2
              rw [if_neg n2.symm, if_pos (.inr rfl)]
            tv := fun q e => by cases e
            tm := fun m hm => by cases hm
            lt := fun k hk => by
              have hk' : (if k = cb then 1 else if k = pb ∨ k = pq then 2 else if k = kb then 4 else if G k then 3 else 0) ≠ 0 := hk
              by_cases h1 : k = cb
              · omega
              · by_cases h2 : k = pb ∨ k = pq
                · omega
                · by_cases h3 : k = kb
                  · omega
                  · by_cases h4 : G k
                    · exact hs.lt k h4
                    · rw [if_neg h1, if_neg h2, if_neg h3, if_neg h4] at hk'; exact absurd rfl hk' }
  · have hk' : (if k = cb then 1 else if k = pb ∨ k = pq then 2 else if k = kb then 4 else if G k then 3 else 0) ≠ 0 := hk
    by_cases h1 : k = cb
    · omega
    · by_cases h2 : k = pb ∨ k = pq
      · omega
      · by_cases h3 : k = kb
        · omega
        · by_cases h4 : G k
          · exact (hG k h4).1
          · rw [if_neg h1, if_neg h2, if_neg h3, if_neg h4] at hk'; exact absurd rfl hk'
theorem RPu.nextB2 {w w' : World} {b q : Nat} {x : Pu} (h : RPu w b q x) (hB : Below w.heap.size w w') : RPu w' b q x :=
  ⟨was_cell hB h.c0, was_cell hB h.c1, fun i hi => was_cell hB (h.s i hi), by rw [hB.frozen (p := ⟨b, 1, none⟩) (cell_lt h.c1)]; exact h.f1, fun i hi => by rw [hB.frozen (p := ⟨q, i, none⟩) (cell_lt (h.s i hi))]; exact h.fs i hi, h.ne⟩
set_option maxRecDepth 100000 in
set_option maxHeartbeats 4000000 in
theorem rch_new (seed : Nat) (w : World) :
    Calls Tryz.prog 27 #[.int .u64 seed] w fun e w' => ∃ cb F, e = .returned (.pointer (some ⟨cb, 0, none⟩)) ∧ RCh F w' cb (chNew seed) ∧ (∀ k, F k → w.heap.size ≤ k) ∧ Below w.heap.size w w' := by
  go_enter Tryz.func27, Tryz.ntmps27
  go_wp2_with fail
  refine (rp_new w).mono ?_
  rintro e w1 ⟨pb, pq, rfl, hpb, hpq, hp1, hB1⟩
  go_wp2_with fail
  refine (rs_new w1).mono ?_
  rintro e w2 ⟨sb, G, rfl, hs2, hG, hsb, hB2⟩
  go_wp2_with fail
  have z1 := hB1.size
  have z2 := hB2.size
  have e1 : (w2.alloc (.cells #[.slice none 0 0, .int .i64 0] 106)).heap.size = w2.heap.size + 1 := by simp
  have A1 : Below w2.heap.size w2 (w2.alloc (.cells #[.slice none 0 0, .int .i64 0] 106)) := (Below.refl _ _).alloc (Nat.le_refl _) _
  have A2 : Below (w2.alloc (.cells #[.slice none 0 0, .int .i64 0] 106)).heap.size (w2.alloc (.cells #[.slice none 0 0, .int .i64 0] 106)) ((w2.alloc (.cells #[.slice none 0 0, .int .i64 0] 106)).alloc (.cells #[.pointer (some ⟨pb, 0, none⟩), .pointer (some ⟨sb, 0, none⟩), .pointer (some ⟨w2.heap.size, 0, none⟩), .int .u64 seed, .int .i64 0, .int .i64 0, .int .i64 0, .slice none 0 0] 62)) := (Below.refl _ _).alloc (Nat.le_refl _) _
  have A3 : Below w2.heap.size w2 ((w2.alloc (.cells #[.slice none 0 0, .int .i64 0] 106)).alloc (.cells #[.pointer (some ⟨pb, 0, none⟩), .pointer (some ⟨sb, 0, none⟩), .pointer (some ⟨w2.heap.size, 0, none⟩), .int .u64 seed, .int .i64 0, .int .i64 0, .int .i64 0, .slice none 0 0] 62)) := A1.trans (A2.mono A1.size)
  have BW : Below w.heap.size w ((w2.alloc (.cells #[.slice none 0 0, .int .i64 0] 106)).alloc (.cells #[.pointer (some ⟨pb, 0, none⟩), .pointer (some ⟨sb, 0, none⟩), .pointer (some ⟨w2.heap.size, 0, none⟩), .int .u64 seed, .int .i64 0, .int .i64 0, .int .i64 0, .slice none 0 0] 62)) := (hB1.trans (hB2.mono z1)).trans (A3.mono (by omega))
  have lp : pb < w1.heap.size := cell_lt hp1.c0
  have lq : pq < w1.heap.size := cell_lt (hp1.s 0 (by omega))
  have hp3 := (hp1.nextB2 hB2).nextB2 A3
  have hs3 := hs2.keptP (KeptP.of_below (F := fun _ => False) A3) (fun _ g => g.elim)
  have k0 : ((w2.alloc (.cells #[.slice none 0 0, .int .i64 0] 106))).cell? ⟨w2.heap.size, 0, none⟩ = some (.slice none 0 0) := cell_new _ _ _ _ _ _ rfl rfl
  have k1 : ((w2.alloc (.cells #[.slice none 0 0, .int .i64 0] 106))).cell? ⟨w2.heap.size, 1, none⟩ = some (.int .i64 0) := cell_new _ _ _ _ _ _ rfl rfl
  have hfst := rch_first (B := w.heap.size) (cb := w2.heap.size + 1) (pb := pb) (pq := pq) (sb := sb) (kb := w2.heap.size) (seed := seed) (G := G) (fun k g => by have := hG k g; have := hs2.lt k g; exact ⟨by omega, by omega, by omega, by omega, by omega⟩) (by omega) (by omega) (by omega) (by omega) (by omega) (by omega) (by omega) (by omega) (by omega)
    (cell_new _ _ _ _ _ _ e1.symm rfl) (cell_new _ _ _ _ _ _ e1.symm rfl) (cell_new _ _ _ _ _ _ e1.symm rfl) (cell_new _ _ _ _ _ _ e1.symm rfl) (cell_new _ _ _ _ _ _ e1.symm rfl) (cell_new _ _ _ _ _ _ e1.symm rfl) (cell_new _ _ _ _ _ _ e1.symm rfl) (cell_new _ _ _ _ _ _ e1.symm rfl) (fun i => World.frozen?_alloc_at _ _ _ _ e1.symm)
    hp3 hs3 ⟨.slice none 0 0, fun k => ⟨.inl, fun z => z.elim (fun e => e) (fun e => by cases e)⟩, was_cell A2 k0, was_cell A2 k1, by rw [A2.frozen (p := ⟨w2.heap.size, 0, none⟩) (by rw [e1]; exact Nat.lt_succ_self _)]; exact World.frozen?_alloc_at _ _ _ _ rfl, by rw [A2.frozen (p := ⟨w2.heap.size, 1, none⟩) (by rw [e1]; exact Nat.lt_succ_self _)]; exact World.frozen?_alloc_at _ _ _ _ rfl, World.ownsRow_nil _ _ _ _, by intro e; cases e⟩
  obtain ⟨F0, hR0, hF0⟩ := hfst
  clear hp3 hs3 k0 k1 lp lq A1 A2 A3 e1 hp1 hs2 hG hsb hpb hpq hB1 hB2 z1 z2
  generalize (w2.alloc (.cells #[.slice none 0 0, .int .i64 0] 106)).alloc (.cells #[.pointer (some ⟨pb, 0, none⟩), .pointer (some ⟨sb, 0, none⟩), .pointer (some ⟨w2.heap.size, 0, none⟩), .int .u64 seed, .int .i64 0, .int .i64 0, .int .i64 0, .slice none 0 0] 62) = w3 at *
  generalize w2.heap.size + 1 = cb at *
  go_loopw [4] (fun i wr => ∃ (j : Nat) (F : Nat → Prop), j ≤ 6 ∧ i = .int .i64 j ∧ RCh F wr cb { ch0 seed with p := mintTo j } ∧ (∀ k, F k → w.heap.size ≤ k) ∧ Below w.heap.size w wr) (fun i _ => 6 - (intOf i).toNat)
  case atStart => exact ⟨0, F0, by omega, rfl, hR0, hF0, BW⟩
  case round =>
    obtain ⟨j, F, hj, rfl, hR, hFB, hB⟩ := hrel
    by_cases hlt : j < 6
    · obtain ⟨tag, pb, pq, sb, kb, v, M, hF, g⟩ := hR
      have c0 := g.c0
      go_wp2_with fail
      refine (rp_mint pb pq (mintTo j) (mintTo_ok j) j 10000 wr g.p).mono ?_
      rintro e w4 ⟨rfl, hp4, hK4⟩
      have g4 := g.purse hp4 hK4
      have M4 := g.movedP hF hK4
      go_wp2_with fail
      go_roundw
      case rel => exact ⟨j + 1, F, by omega, by go_num, ⟨tag, pb, pq, sb, kb, v, M, hF, g4⟩, hFB, hB.trans (M4.kept.below hB.size hFB)⟩
      case measure => simp [intOf]; omega
    · obtain rfl : 6 = j := by omega
      clear hlt hj
      have H1 : Hid (∀ k, F k → w.heap.size ≤ k) := hFB
      go_wp2_with fail
      go_loopw [5] (fun i wr => ∃ (j : Nat) (F : Nat → Prop), j ≤ 3 ∧ i = .int .i64 j ∧ RCh F wr cb { ch0 seed with p := outTo j, s := stkSt j } ∧ Mine w.heap.size w wr F) (fun i _ => 3 - (intOf i).toNat)
      case atStart => exact ⟨0, F, by omega, rfl, hR, ⟨hFB, hB, hB.size⟩⟩
      case round =>
        obtain ⟨j, F2, hj, rfl, hR2, hm⟩ := hrel
        clear hR hB hR0 BW
        by_cases hlt : j < 3
        · obtain ⟨tag, pb, pq, sb, kb, v, M, hF, g⟩ := hR2
          have c0 := g.c0
          have c1 := g.c1
          go_wp2_with fail
          refine (rs_register (fun k => tag k = 3) sb (stkSt j) (stkSt_ok j) j _ g.s).mono ?_
          rintro e w4 ⟨rfl, G4, hs4, M4⟩
          have g4 := g.stakes hs4 M4
          have m4 := hm.next (retag_moved hF M4 (by decide))
          have d0 := g4.c0
          clear g c0 c1 hm
          go_wp2_with fail
          refine (rp_out pb pq (outTo j) (outTo_ok j) j 1000 w4 g4.p).mono ?_
          rintro e w5 ⟨rfl, hp5, hK5⟩
          have g5 := g4.purse hp5 hK5
          have m5 := m4.next (g4.movedP (F := fun k => retag tag 3 G4 k ≠ 0) (fun _ => Iff.rfl) hK5)
          have e1 := g5.c1
          clear g4 d0 m4
          go_wp2_with fail
          refine (rs_join (fun k => retag tag 3 G4 k = 3) sb ((stkSt j).reg j) ((stkSt_ok j).reg j) j j 1000 w5 g5.s).mono ?_
          rintro e w6 ⟨rfl, hs6, M6⟩
          have g6 := g5.stakes0 hs6 M6
          have m6 := m5.next (F' := fun k => retag tag 3 G4 k ≠ 0) ⟨M6.kept.mono (fun k _ e => by rw [e]; decide), fun _ _ g => g⟩
          clear g5 e1 m5
          go_wp2_with fail
          go_roundw
          case rel => exact ⟨j + 1, _, by omega, by go_num, ⟨_, pb, pq, sb, kb, v, M, fun _ => Iff.rfl, g6⟩, m6⟩
          case measure => simp [intOf]; omega
        · obtain rfl : 3 = j := by omega
          clear hlt hj
          obtain ⟨i0, hi, hz0, hz1, hz2⟩ := info_parts Tryz.infoPics
          go_wp2_with fail
          go_loopw [6] (fun i wr => ∃ (j : Nat) (F : Nat → Prop), j ≤ 3 ∧ i = .int .i64 j ∧ RCh F wr cb { chNew seed with pics := List.replicate j stakes0.pic } ∧ Mine w.heap.size w wr F) (fun i _ => 3 - (intOf i).toNat)
          case atStart => exact ⟨0, F2, by omega, rfl, hR2, hm⟩
          case round =>
            obtain ⟨j, F3, hj, rfl, hR3, hm3⟩ := hrel
            clear hR2 hm
            by_cases hlt : j < 3
            · obtain ⟨tag, pb, pq, sb, kb, v, M, hF, g⟩ := hR3
              have c7 := g.c7
              have c1 := g.c1
              have t2 : (j : Int) ≤ 2 := by omega
              have pl : ({ chNew seed with pics := List.replicate j stakes0.pic } : Ch).pics.length = j := List.length_replicate ..
              have l63 : j + 1 ≤ maxLen := by simp only [maxLen]; omega
              have l64 : (j + 1) * 24 ≤ 140737488355328 := by omega
              go_wp2_with fail
              go_region_law (first
                | (refine step_append_lies _ (by rfl) (.tmp 55) (.tmp 61) 60 (by rfl) 0 31 i0 (.slice none 0 0) 1 24 Tryz.underlying60 hi hz0 hz1 hz2 rfl (by decide) v j (mrow M) (by rfl) ow4 ⟨w4.heap.size, 0, none⟩ 1 1 [.slice (some ⟨m, 0, none⟩) 3 mcap] (by rfl) rfl N4 one (by decide) l63 l64 (Nat.zero_le _) (w4.heap.size + 1) (by simp) ?_; intro gN capN w7 hown hgrow hat hltN; obtain ⟨d7, e7⟩ := g4.slot7 hgrow)
                | (go_simp; go_at_call 71; refine (rk_picture (fun k => tag k = 3) sb stakes0 stakes0_ok _ (by first | exact g.s | exact (g.drewN 1).s)).mono ?_; rintro e w4 ⟨m, mcap, rfl, ⟨hm5, hm6⟩, hI, hB4⟩; have B4 : Below wr.heap.size wr w4 := (by first | exact hB4 | exact below_drew_end hB4); have g4 := g.nextB B4; have c74 := g4.c7; have f74 := g4.f 7; have A4 : Below w4.heap.size w4 (w4.alloc (.cells #[.slice (some ⟨m, 0, none⟩) 3 mcap] 31)) := ((Below.refl _ _).alloc (Nat.le_refl _) _); have c75 : (w4.alloc (.cells #[.slice (some ⟨m, 0, none⟩) 3 mcap] 31)).cell? ⟨cb, 7, none⟩ = some v := was_cell A4 c74; have ow4 : (w4.alloc (.cells #[.slice (some ⟨m, 0, none⟩) 3 mcap] 31)).ownsRow 0 31 1 v j (mrow M) := (by have o := g4.own; rw [pl] at o; exact o.alloc _); have N4 : ∀ j u, [Value.slice (some ⟨m, 0, none⟩) 3 mcap][j]? = some u → (w4.alloc (.cells #[.slice (some ⟨m, 0, none⟩) 3 mcap] 31)).cell? ((⟨w4.heap.size, 0, none⟩ : Addr).add j) = some u := World.news_of_block (heap_alloc_new w4 _); have one : ∀ u ∈ [Value.slice (some ⟨m, 0, none⟩) 3 mcap], u.oneCell' = true := (by simp [Value.oneCell'])))
              all_goals
                go_wp2_with fail
                go_roundw
                case rel =>
                  obtain ⟨tag', gF, hold, hK⟩ := g.pictured (m := (m, mcap)) (W := stakes0.pic) (n := j + 1) (cap := capN) (.inl hm5) (B4.trans (A4.mono B4.size)) (fun i hi => was_cell A4 (hI i hi)) (by rw [pl]) hown hgrow (hat.imp (fun e => e) (fun e => by rw [e]; simp)) hltN
                  refine ⟨j + 1, fun k => tag' k ≠ 0, by omega, by go_num, ?_, hm3.next ⟨hK.mono (fun k _ e => (hF k).2 e), fun k hk e => (hF k).2 (hold k hk e)⟩⟩
                  rw [List.replicate_succ']
                  exact ⟨tag', pb, pq, sb, kb, _, _, fun _ => Iff.rfl, gF⟩
                case measure => simp [intOf]; omega
            · obtain rfl : 3 = j := by omega
              have t2 : ¬ ((3 : Nat) : Int) ≤ 2 := by omega
              clear hlt hj
              go_wp2_with fail
              go_ret
              exact ⟨cb, rfl, F3, hR3, hm3.f, hm3.below⟩
end Go.Proofs.YtaihcceobnfmhaaGreatDoor
