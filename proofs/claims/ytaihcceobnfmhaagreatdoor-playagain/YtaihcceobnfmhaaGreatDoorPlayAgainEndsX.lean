/-
  The law PlayAgain of package bakehouselaw3, walked: for every seed, every script and every cut of it it returns true.
  The law PlayAgain, whatever comes in.
-/
import Derived.Test.YtaihcceobnfmhaaGreatDoorPlayedOf
import Derived.Deep.RegionHeld3
import Derived.Test.YtaihcceobnfmhaaGreatDoorCutRowsX
namespace Go.Proofs.YtaihcceobnfmhaaGreatDoor
open Go.RowKit

theorem owns_keptP {B : Nat} {w w' : World} {e : TypeId} {size n : Nat} {v : Value} {xs : List Value} {F : Nat → Prop} (h : w.ownsRow B e size v n xs) (hK : KeptP F w w') (hv : ∀ g, v.ownBlock = some g → ¬ F g) : w'.ownsRow B e size v n xs := by
  refine ⟨h.1, ?_⟩
  rcases h.2 with g | ⟨g, cap, cur, rfl, hb, hg, h1, h2, h3, h4⟩
  · exact .inl g
  · refine .inr ⟨g, cap, cur, rfl, hb, ?_, h1, h2, h3, h4⟩
    have hlt : g < w.heap.size := by
      rcases Nat.lt_or_ge g w.heap.size with l | l
      · exact l
      · rw [Array.getElem?_eq_none l] at hg; cases hg
    rw [hK.block g hlt (hv g rfl)]
    exact hg
theorem kRow_one (K : Nat → Int) : ∀ k, ∀ u ∈ kRow K k, u.oneCell' = true
  | 0, u, h => by cases h
  | k + 1, u, h => by
    rcases List.mem_append.1 (show u ∈ kRow K k ++ [.int .i64 (K k)] from h) with g | g
    · exact kRow_one K k u g
    · have : u = .int .i64 (K k) := by simpa using g
      rw [this]; rfl
theorem kRow_cut (K K' : Nat → Int) (c : Nat) : ∀ m, kRow (fun i => if i < c then K i else K' (i - c)) (c + m) = kRow K c ++ kRow K' m
  | 0 => by rw [Nat.add_zero, kRow_congr c (fun i hi => if_pos hi)]; simp [kRow]
  | m + 1 => by
    show kRow _ (c + m) ++ [.int .i64 (if c + m < c then K (c + m) else K' (c + m - c))] = kRow K c ++ (kRow K' m ++ [.int .i64 (K' m)])
    rw [kRow_cut K K' c m, if_neg (by omega), Nat.add_sub_cancel_left, List.append_assoc]
theorem ownsRow_below {w w' : World} {B n : Nat} {e : TypeId} {v : Value} {xs : List Value} (h : w.ownsRow B e 1 v n xs) (k : Below w.heap.size w w') : w'.ownsRow B e 1 v n xs := owns_keptP h (KeptP.of_below (F := fun _ => False) k) fun _ _ g => g
/-- two chains of the program, and the answers of the first -/
structure Duo (B : Nat) (w0 w : World) (F G : Nat → Prop) (ca cb : Nat) (CA CB : Ch) (gA gB b1 n : Nat) (v : Value) (K : Nat → Int) : Prop where
  a : PCh F w ca CA gA
  b : PCh G w cb CB gB
  s : Sides B w0 w F G
  own : w.ownsRow b1 3 1 v n (kRow K n)
  nF : ∀ q, v.ownBlock = some q → ¬ F q
  nG : ∀ q, v.ownBlock = some q → ¬ G q
theorem Duo.nextB {B : Nat} {w0 w w' : World} {F G : Nat → Prop} {ca cb : Nat} {CA CB : Ch} {gA gB b1 n : Nat} {v : Value} {K : Nat → Int} (h : Duo B w0 w F G ca cb CA CB gA gB b1 n v K) (k : Below w.heap.size w w') : Duo B w0 w' F G ca cb CA CB gA gB b1 n v K :=
  ⟨h.a.nextB k, h.b.nextB k, h.s.nextB k, ownsRow_below h.own k, h.nF, h.nG⟩
theorem Duo.two {B : Nat} {w0 w w' : World} {F G G' : Nat → Prop} {ca cb : Nat} {CA CB CB' : Ch} {gA gB gB' b1 n : Nat} {v : Value} {K : Nat → Int} (h : Duo B w0 w F G ca cb CA CB gA gB b1 n v K) (M : Moved G G' w w') (b' : PCh G' w' cb CB' gB') : Duo B w0 w' F G' ca cb CA CB' gA gB' b1 n v K :=
  ⟨h.a.keptP M.kept (fun k hg hf => h.s.apart k hf hg), b', h.s.two h.a.lt M, owns_keptP h.own M.kept h.nG, h.nF, fun q e g => h.nG q e (M.old q (h.own.lt q e).2 g)⟩
/-- something of the call's own has grown beside them -/
theorem Duo.beside {B : Nat} {w0 w w' : World} {F G : Nat → Prop} {ca cb : Nat} {CA CB : Ch} {gA gB b1 n : Nat} {v u : Value} {K : Nat → Int} (h : Duo B w0 w F G ca cb CA CB gA gB b1 n v K) (hg : w.grownBy w' u.ownBlock) (uF : ∀ q, u.ownBlock = some q → ¬ F q) (uG : ∀ q, u.ownBlock = some q → ¬ G q) (uV : ∀ q, u.ownBlock = some q → v.ownBlock ≠ some q) (uB : ∀ q, u.ownBlock = some q → B ≤ q) : Duo B w0 w' F G ca cb CA CB gA gB b1 n v K := by
  have KP : KeptP (fun q => u.ownBlock = some q) w w' := ⟨hg.os, hg.tape, hg.output, hg.size, fun q hq z => hg.block q hq fun e => z e.symm⟩
  exact ⟨h.a.keptP KP uF, h.b.keptP KP uG, ⟨h.s.apart, h.s.f, h.s.g, h.s.below.trans (KP.below h.s.size uB), Nat.le_trans h.s.size KP.size⟩, owns_keptP h.own KP (fun q e z => uV q z e), h.nF, h.nG⟩
theorem RowV.cells {w : World} {v : Value} {m : Nat} {K : Nat → Int} (h : RowV w v m K) (h0 : 0 < m) : ∃ b off cap, v = .slice (some ⟨b, off, none⟩) m cap ∧ ∀ j u, (kRow K m)[j]? = some u → w.cell? ((⟨b, off, none⟩ : Addr).add j) = some u := by
  obtain ⟨a, cap, rfl, h⟩ := h
  obtain ⟨b, off, rfl, _, _⟩ := h 0 h0
  refine ⟨b, off, cap, rfl, fun j u hj => ?_⟩
  have hl : j < m := by have := (List.getElem?_eq_some_iff.1 hj).1; rwa [kRow_len] at this
  obtain ⟨b', off', e, _, c⟩ := h j hl
  cases e
  rw [kRow_at K m j hl] at hj
  rw [add_plain, ← Option.some.inj hj]
  exact c
set_option maxRecDepth 100000 in
set_option maxHeartbeats 4000000 in
theorem playAgain_walk (seed : Nat) (hs : seed < W64) (a : Option Addr) (n cap c : Nat) (W : Nat → Int) (hW : ∀ i, i < n → W i ≤ 9223372036854775807) (A : Nat → Addr) (w : World) (hL : Laid w A) (h250 : n ≤ 250) (hc : c ≤ n) (v1 v2 : Value)
    (s1 : ∀ x : World, (Instr.slice 31 (.slice a n cap) none (some (.int .i64 c)) none).run Tryz.prog x = .ok v1 x) (s2 : ∀ x : World, (Instr.slice 31 (.slice a n cap) (some (.int .i64 c)) none none).run Tryz.prog x = .ok v2 x)
    (R1 : RowV w v1 c W) (R2 : RowV w v2 (n - c) (fun i => W (c + i))) (R3 : RowV w (.slice a n cap) n W) :
    Calls Tryz.prog 7 #[.int .u64 seed, .slice a n cap, .int .i64 c] w fun e w' => e = .returned (.bool true) ∧ Below w.heap.size w w' := by
  go_enter Tryz.func7, Tryz.ntmps7
  go_wp2_with fail
  refine (played_of A w hL).mono ?_
  rintro e w1 ⟨rfl, hB1⟩
  go_wp2_with fail
  refine (pch_new seed hs A w1 (hL.chP.below hB1)).mono ?_
  rintro e w2 ⟨ca, F2, rfl, h2, hF2, hB2⟩
  go_wp2_with fail
  refine (pch_new seed hs A w2 (hL.chP.below (hB1.trans (hB2.mono hB1.size)))).mono ?_
  rintro e w3 ⟨cb, G3, rfl, k3, hG3, hB3⟩
  have B12 := hB1.trans (hB2.mono hB1.size)
  have W3 : Sides w.heap.size w w3 F2 G3 := ⟨fun k hk hg => by have := h2.lt k hk; have := hG3 k hg; omega, fun k hk => Nat.le_trans hB1.size (hF2 k hk), fun k hk => Nat.le_trans B12.size (hG3 k hk), B12.trans (hB3.mono B12.size), Nat.le_trans B12.size hB3.size⟩
  have h3 := h2.nextB hB3
  clear h2 hF2 hG3 hB1 hB2 hB3 B12
  have HR1 := hide R1
  have HR2 := hide R2
  clear R1 R2
  go_wp2_with fail
  refine (own_of _ n (by omega) W hW w3 (R3.below W3.below)).mono ?_
  rintro e w4 ⟨u1, rfl, hS1, hB4⟩
  have S4 := hS1 F2 h3.lt
  have h4 := h3.nextB hB4
  have k4 := k3.nextB hB4
  have W4 := W3.nextB hB4
  clear h3 k3 W3 hB4 hS1 R3
  go_wp2_with fail
  refine (pl_run F2 ca (chNew seed) (chNew_ok seed hs) 0 (chNew_fit seed) n (by omega) 10000 (by omega) u1 W A w hL w4 ⟨W4.f, W4.below, W4.size⟩ h4 S4).mono ?_
  rintro e w5 ⟨v, K, CA, F5, gA, rfl, ranA, hgA, h5, M5, own5, q5⟩
  have D5 : Duo w.heap.size w w5 F5 G3 ca cb CA (chNew seed) gA 10000 w4.heap.size n v K := ⟨h5, k4.keptP M5.kept W4.apart, W4.one k4.lt M5, own5, q5, fun q e g => by have := (own5.lt q e).1; have := k4.lt q g; omega⟩
  clear h4 k4 W4 S4 M5 h5 own5 q5
  go_wp2_with fail
  refine (own_of v1 c (by omega) W (fun i hi => hW i (by omega)) w5 (HR1.out.below D5.s.below)).mono ?_
  rintro e w6 ⟨u2, rfl, hS2, hB6⟩
  have S6 := hS2 G3 D5.b.lt
  have D6 := D5.nextB hB6
  have lv6 : ∀ q, v.ownBlock = some q → q < w6.heap.size := fun q e => (D6.own.lt q e).2
  clear D5 hB6 hS2 HR1
  go_wp2_with fail
  refine (pl_run G3 cb (chNew seed) (chNew_ok seed hs) 0 (chNew_fit seed) c (by omega) 10000 (by omega) u2 W A w hL w6 ⟨D6.s.g, D6.s.below, D6.s.size⟩ D6.b S6).mono ?_
  rintro e w7 ⟨v', K', CB, G7, gB, rfl, ranB, hgB, k7, M7, own7, q7⟩
  have D7 := D6.two M7 k7
  have uF7 : ∀ q, v'.ownBlock = some q → ¬ F5 q := fun q e g => by have := (own7.lt q e).1; have := D6.a.lt q g; omega
  have uV7 : ∀ q, v'.ownBlock = some q → v.ownBlock ≠ some q := fun q e z => by have := (own7.lt q e).1; have := lv6 q z; omega
  have uB7 : ∀ q, v'.ownBlock = some q → w.heap.size ≤ q := fun q e => Nat.le_trans D6.s.size (own7.lt q e).1
  obtain ⟨okB, fitB⟩ := RanTo.ok (chNew_ok seed hs) (chNew_fit seed) c ranB
  have L7 : Hid (w6.heap.size ≤ w7.heap.size) := M7.kept.size
  clear D6 M7 k7 S6
  go_wp2_with fail
  refine (pl_add G7 cb CB okB (by have := fitB.k; omega) gB w7 D7.b).mono ?_
  rintro e w8 ⟨rfl, hB8⟩
  have D8 := D7.nextB hB8
  have own8 := ownsRow_below own7 hB8
  have L8 : Hid (w6.heap.size ≤ w8.heap.size) := Nat.le_trans L7.out hB8.size
  clear D7 own7 hB8
  have hB9 : Below w8.heap.size w8 (w8.alloc (.cells #[.int .i64 CB.p.sum, .int .i64 CB.s.total, .int .i64 CB.p.S] 53)) := (Below.refl _ _).alloc (Nat.le_refl _) _
  have D9 := D8.nextB hB9
  have own9 := ownsRow_below own8 hB9
  have x0 : (w8.alloc (.cells #[.int .i64 CB.p.sum, .int .i64 CB.s.total, .int .i64 CB.p.S] 53)).cell? ⟨w8.heap.size, 0, none⟩ = some (.int .i64 CB.p.sum) := by simp
  have x1 : (w8.alloc (.cells #[.int .i64 CB.p.sum, .int .i64 CB.s.total, .int .i64 CB.p.S] 53)).cell? ⟨w8.heap.size, 1, none⟩ = some (.int .i64 CB.s.total) := by simp
  have x2 : (w8.alloc (.cells #[.int .i64 CB.p.sum, .int .i64 CB.s.total, .int .i64 CB.p.S] 53)).cell? ⟨w8.heap.size, 2, none⟩ = some (.int .i64 CB.p.S) := by simp
  have nxG : ¬ G7 w8.heap.size := fun g => by have := D8.b.lt _ g; omega
  have nxV : ∀ q, v'.ownBlock = some q → q ≠ w8.heap.size := fun q e z => by have := (own8.lt q e).2; omega
  have L9 : Hid (w6.heap.size ≤ (w8.alloc (.cells #[.int .i64 CB.p.sum, .int .i64 CB.s.total, .int .i64 CB.p.S] 53)).heap.size) := Nat.le_trans L8.out hB9.size
  clear D8 own8 hB9 L8
  go_wp2_with fail
  generalize w8.alloc (.cells #[.int .i64 CB.p.sum, .int .i64 CB.s.total, .int .i64 CB.p.S] 53) = w9 at *
  generalize w8.heap.size = nx at *
  refine (own_of v2 (n - c) (by omega) (fun i => W (c + i)) (fun i hi => hW (c + i) (by omega)) w9 (HR2.out.below D9.s.below)).mono ?_
  rintro e w10 ⟨u3, rfl, hS3, hB10⟩
  have S10 := hS3 G7 D9.b.lt
  have D10 := D9.nextB hB10
  have own10 := ownsRow_below own9 hB10
  have y0 := stk_old hB10 x0
  have y1 := stk_old hB10 x1
  have y2 := stk_old hB10 x2
  have L10 : Hid (w6.heap.size ≤ w10.heap.size) := Nat.le_trans L9.out hB10.size
  clear D9 own9 hB10 hS3 HR2 x0 x1 x2
  go_wp2_with fail
  refine (pl_run G7 cb CB okB c (by rw [Nat.zero_add] at fitB; exact fitB) (n - c) (by omega) gB (by omega) u3 (fun i => W (c + i)) A w hL w10 ⟨D10.s.g, D10.s.below, D10.s.size⟩ D10.b S10).mono ?_
  rintro e w11 ⟨v'', K'', CC, G11, gC, rfl, ranC, hgC, k11, M11, own11, q11⟩
  have D11 := D10.two M11 k11
  have own11' := owns_keptP own10 M11.kept q7
  have uG11 : ∀ q, v'.ownBlock = some q → ¬ G11 q := fun q e g => q7 q e (M11.old q (own10.lt q e).2 g)
  have z0 : w11.cell? ⟨nx, 0, none⟩ = some (.int .i64 CB.p.sum) := M11.cell y0 nxG
  have z1 : w11.cell? ⟨nx, 1, none⟩ = some (.int .i64 CB.s.total) := M11.cell y1 nxG
  have z2 : w11.cell? ⟨nx, 2, none⟩ = some (.int .i64 CB.p.S) := M11.cell y2 nxG
  have L11 : Hid (w6.heap.size ≤ w11.heap.size) := Nat.le_trans L10.out M11.kept.size
  have R11 := row_reads own11
  have ran := ranB.cut (n - c) ranC
  have en : c + (n - c) = n := by omega
  rw [en] at ran
  obtain ⟨rfl, eK⟩ := RanTo.one n ranA ran
  obtain ⟨okA, fitA⟩ := RanTo.ok (chNew_ok seed hs) (chNew_fit seed) n ranA
  have kc := kRow_cut K' K'' c (n - c)
  rw [en] at kc
  have HK := hide eK
  clear ranA ranB ranC ran y0 y1 y2 own10 M11 D10 S10 eK
  rcases Nat.eq_zero_or_pos (n - c) with e0 | m0
  · obtain rfl : n = c := by omega
    obtain ⟨a3, cap3, rfl, _⟩ := R11
    have R12 : RowV w11 v' n K := (row_reads own11').congr (fun i hi => by have := HK.out i hi; rw [if_pos hi] at this; exact this.symm)
    have ar := fun ty => append_owned_empty w11 w6.heap.size ty v' n (kRow K' n) a3 cap3 own11'
    have z0' := z0
    have z1' := z1
    have z2' := z2
    have D12 := D11
    obtain ⟨w12, hw12⟩ : ∃ w12, w12 = w11 := ⟨_, rfl⟩
    rw [← hw12] at D12 R12 z0' z1' z2'
    rw [e0] at *
    clear kc en q11 own11 own11' D11
    go_wp2_with (at_builtin; refine wpList_append_by _ rfl (.tmp 55) (.tmp 61) 31 rfl _ _ rfl rfl _ _ (ar _) ?_)
    rw [← hw12]
    clear hw12 ar
    go_wp2_with fail
    refine (pl_add G11 cb CA okA (by have := fitA.k; omega) gC w12 D12.b).mono ?_
    rintro e w13 ⟨rfl, hB13⟩
    have D13 := D12.nextB hB13
    have R13 := R12.below hB13
    have a0 := stk_old hB13 z0'
    have a1 := stk_old hB13 z1'
    have a2 := stk_old hB13 z2'
    clear D12 R12 hB13 z0' z1' z2'
    have hB14 : Below w13.heap.size w13 (w13.alloc (.cells #[.int .i64 CA.p.sum, .int .i64 CA.s.total, .int .i64 CA.p.S] 53)) := (Below.refl _ _).alloc (Nat.le_refl _) _
    have D14 := D13.nextB hB14
    have R14 := R13.below hB14
    have b0 := stk_old hB14 a0
    have b1 := stk_old hB14 a1
    have b2 := stk_old hB14 a2
    have e0 : (w13.alloc (.cells #[.int .i64 CA.p.sum, .int .i64 CA.s.total, .int .i64 CA.p.S] 53)).cell? ⟨w13.heap.size, 0, none⟩ = some (.int .i64 CA.p.sum) := by simp
    have e1 : (w13.alloc (.cells #[.int .i64 CA.p.sum, .int .i64 CA.s.total, .int .i64 CA.p.S] 53)).cell? ⟨w13.heap.size, 1, none⟩ = some (.int .i64 CA.s.total) := by simp
    have e2 : (w13.alloc (.cells #[.int .i64 CA.p.sum, .int .i64 CA.s.total, .int .i64 CA.p.S] 53)).cell? ⟨w13.heap.size, 2, none⟩ = some (.int .i64 CA.p.S) := by simp
    clear D13 R13 hB14 a0 a1 a2
    go_wp2_with fail
    generalize w13.alloc (.cells #[.int .i64 CA.p.sum, .int .i64 CA.s.total, .int .i64 CA.p.S] 53) = wz at *
    generalize w13.heap.size = ny at *
    have B0 : Below wz.heap.size wz wz := Below.refl _ _
    have V14 := row_reads D14.own
    go_region_held3 (fun w' => w'.cell? ⟨ny, 0, none⟩ = some (.int .i64 CA.p.sum) ∧ w'.cell? ⟨ny, 1, none⟩ = some (.int .i64 CA.s.total) ∧ w'.cell? ⟨ny, 2, none⟩ = some (.int .i64 CA.p.S)) (exact ⟨by assumption, by assumption, by assumption⟩)
      (first
        | (go_at_call 34; refine (sameInts_of v _ n (by omega) K _ (by first | exact V14 | exact V14.below (below_drewN B0 _)) (by first | exact R14 | exact R14.below (below_drewN B0 _))).mono ?_; rintro e w15 ⟨rfl, m15, hw15⟩; have B15 : Below wz.heap.size wz w15 := (by rw [hw15]; first | exact below_drewN B0 _ | exact below_drewN (below_drewN B0 _) _); have f0 := stk_old B15 e0; have f1 := stk_old B15 e1; have f2 := stk_old B15 e2; clear hw15)
        | (go_at_call 33; refine (pl_add F5 ca CA okA (by have := fitA.k; omega) gA _ (by first | exact (D14.nextB B15).a | exact (D14.nextB B15).a.nextB (below_drewN (Below.refl _ _) _))).mono ?_; rintro e w16 ⟨rfl, hB16⟩; have B16 : Below wz.heap.size wz w16 := (by first | exact B15.trans (hB16.mono B15.size) | exact (below_drewN B15 _).trans (hB16.mono B15.size)); have g0 := stk_old B16 e0; have g1 := stk_old B16 e1; have g2 := stk_old B16 e2))
    have D16 := D14.nextB B16
    have i0 := stk_old B16 b0
    have i1 := stk_old B16 b1
    have i2 := stk_old B16 b2
    have sB := okB.sum
    have sA := okA.sum
    have tB := okB.p.top
    have tA := okA.p.top
    have uB := okB.p.sum0
    have uA := okA.p.sum0
    have wB := okB.s.total_bd.1
    have wA := okA.s.total_bd.1
    have j1 : (CB.p.sum + CB.s.total == CB.p.S) = true := by rw [sB]; simp
    have j2 : (CA.p.sum + CA.s.total == CA.p.S) = true := by rw [sA]; simp
    have j3 : (((CA.lev : Nat) : Int) == ((CA.lev : Nat) : Int)) = true := by simp
    have k1 : CB.p.sum ≤ 1125899906842624 := by omega
    have k2 : CB.s.total ≤ 1125899906842624 := by omega
    have k3 : CA.p.sum ≤ 1125899906842624 := by omega
    have k4 : CA.s.total ≤ 1125899906842624 := by omega
    clear sB sA D14 R14 V14 b0 b1 b2 e0 e1 e2
    go_wp2_with fail
    refine (pch_level F5 ca CA gA w16 D16.a).mono ?_
    rintro e w17 ⟨rfl, hB17⟩
    have D17 := D16.nextB hB17
    clear D16 hB17
    go_wp2_with fail
    refine (pch_level G11 cb CA gC w17 D17.b).mono ?_
    rintro e w18 ⟨rfl, hB18⟩
    have D18 := D17.nextB hB18
    have hB := D18.s.below
    clear D17 D18 hB18
    go_wp2_with fail
    go_ret
    exact ⟨rfl, hB⟩
  · obtain ⟨b3, off3, cap3, rfl, N6⟩ := R11.cells m0
    obtain ⟨i9, hi9, hz0, hz1, hz2⟩ := info_parts Tryz.infoInts
    have one : ∀ u ∈ kRow K'' (n - c), u.oneCell' = true := kRow_one K'' (n - c)
    have l63 : c + (n - c) ≤ maxLen := by simp only [maxLen]; omega
    have l64 : (c + (n - c)) * 8 ≤ 140737488355328 := by omega
    have lB : w6.heap.size ≤ w11.heap.size := L11.out
    go_wp2_with (at_builtin; refine wpList_append_lies _ rfl (.tmp 55) (.tmp 61) 31 rfl w6.heap.size 3 i9 (.int .i64 0) 1 8 Tryz.underlying31 hi9 hz0 hz1 hz2 rfl (by decide) _ c (kRow K' c) rfl own11' ⟨b3, off3, none⟩ (n - c) cap3 (kRow K'' (n - c)) rfl (by rw [kRow_len, Nat.mul_one]) N6 one m0 l63 l64 lB _ rfl ?_; intro gN capN w12 hown hgrow hat hltN)
    have D12 := D11.beside hgrow uF7 uG11 uV7 uB7
    rw [← kRow_cut K' K'' c (n - c), en] at hown
    have R12 : RowV w12 _ n K := (row_reads hown).congr (fun i hi => (HK.out i hi).symm)
    have KP : KeptP (fun q => v'.ownBlock = some q) w11 w12 := ⟨hgrow.os, hgrow.tape, hgrow.output, hgrow.size, fun q hq z => hgrow.block q hq fun e => z e.symm⟩
    have z0' : w12.cell? ⟨nx, 0, none⟩ = some (.int .i64 CB.p.sum) := KP.old z0 (fun e => nxV nx e rfl)
    have z1' : w12.cell? ⟨nx, 1, none⟩ = some (.int .i64 CB.s.total) := KP.old z1 (fun e => nxV nx e rfl)
    have z2' : w12.cell? ⟨nx, 2, none⟩ = some (.int .i64 CB.p.S) := KP.old z2 (fun e => nxV nx e rfl)
    clear kc q11 own11 own11' D11 hown hgrow hat hltN KP N6 one R11
    go_wp2_with fail
    refine (pl_add G11 cb CA okA (by have := fitA.k; omega) gC w12 D12.b).mono ?_
    rintro e w13 ⟨rfl, hB13⟩
    have D13 := D12.nextB hB13
    have R13 := R12.below hB13
    have a0 := stk_old hB13 z0'
    have a1 := stk_old hB13 z1'
    have a2 := stk_old hB13 z2'
    clear D12 R12 hB13 z0' z1' z2'
    have hB14 : Below w13.heap.size w13 (w13.alloc (.cells #[.int .i64 CA.p.sum, .int .i64 CA.s.total, .int .i64 CA.p.S] 53)) := (Below.refl _ _).alloc (Nat.le_refl _) _
    have D14 := D13.nextB hB14
    have R14 := R13.below hB14
    have b0 := stk_old hB14 a0
    have b1 := stk_old hB14 a1
    have b2 := stk_old hB14 a2
    have e0 : (w13.alloc (.cells #[.int .i64 CA.p.sum, .int .i64 CA.s.total, .int .i64 CA.p.S] 53)).cell? ⟨w13.heap.size, 0, none⟩ = some (.int .i64 CA.p.sum) := by simp
    have e1 : (w13.alloc (.cells #[.int .i64 CA.p.sum, .int .i64 CA.s.total, .int .i64 CA.p.S] 53)).cell? ⟨w13.heap.size, 1, none⟩ = some (.int .i64 CA.s.total) := by simp
    have e2 : (w13.alloc (.cells #[.int .i64 CA.p.sum, .int .i64 CA.s.total, .int .i64 CA.p.S] 53)).cell? ⟨w13.heap.size, 2, none⟩ = some (.int .i64 CA.p.S) := by simp
    clear D13 R13 hB14 a0 a1 a2
    go_wp2_with fail
    generalize w13.alloc (.cells #[.int .i64 CA.p.sum, .int .i64 CA.s.total, .int .i64 CA.p.S] 53) = wz at *
    generalize w13.heap.size = ny at *
    have B0 : Below wz.heap.size wz wz := Below.refl _ _
    have V14 := row_reads D14.own
    go_region_held3 (fun w' => w'.cell? ⟨ny, 0, none⟩ = some (.int .i64 CA.p.sum) ∧ w'.cell? ⟨ny, 1, none⟩ = some (.int .i64 CA.s.total) ∧ w'.cell? ⟨ny, 2, none⟩ = some (.int .i64 CA.p.S)) (exact ⟨by assumption, by assumption, by assumption⟩)
      (first
        | (go_at_call 34; refine (sameInts_of v _ n (by omega) K _ (by first | exact V14 | exact V14.below (below_drewN B0 _)) (by first | exact R14 | exact R14.below (below_drewN B0 _))).mono ?_; rintro e w15 ⟨rfl, m15, hw15⟩; have B15 : Below wz.heap.size wz w15 := (by rw [hw15]; first | exact below_drewN B0 _ | exact below_drewN (below_drewN B0 _) _); have f0 := stk_old B15 e0; have f1 := stk_old B15 e1; have f2 := stk_old B15 e2; clear hw15)
        | (go_at_call 33; refine (pl_add F5 ca CA okA (by have := fitA.k; omega) gA _ (by first | exact (D14.nextB B15).a | exact (D14.nextB B15).a.nextB (below_drewN (Below.refl _ _) _))).mono ?_; rintro e w16 ⟨rfl, hB16⟩; have B16 : Below wz.heap.size wz w16 := (by first | exact B15.trans (hB16.mono B15.size) | exact (below_drewN B15 _).trans (hB16.mono B15.size)); have g0 := stk_old B16 e0; have g1 := stk_old B16 e1; have g2 := stk_old B16 e2))
    have D16 := D14.nextB B16
    have i0 := stk_old B16 b0
    have i1 := stk_old B16 b1
    have i2 := stk_old B16 b2
    have sB := okB.sum
    have sA := okA.sum
    have tB := okB.p.top
    have tA := okA.p.top
    have uB := okB.p.sum0
    have uA := okA.p.sum0
    have wB := okB.s.total_bd.1
    have wA := okA.s.total_bd.1
    have j1 : (CB.p.sum + CB.s.total == CB.p.S) = true := by rw [sB]; simp
    have j2 : (CA.p.sum + CA.s.total == CA.p.S) = true := by rw [sA]; simp
    have j3 : (((CA.lev : Nat) : Int) == ((CA.lev : Nat) : Int)) = true := by simp
    have k1 : CB.p.sum ≤ 1125899906842624 := by omega
    have k2 : CB.s.total ≤ 1125899906842624 := by omega
    have k3 : CA.p.sum ≤ 1125899906842624 := by omega
    have k4 : CA.s.total ≤ 1125899906842624 := by omega
    clear sB sA D14 R14 V14 b0 b1 b2 e0 e1 e2
    go_wp2_with fail
    refine (pch_level F5 ca CA gA w16 D16.a).mono ?_
    rintro e w17 ⟨rfl, hB17⟩
    have D17 := D16.nextB hB17
    clear D16 hB17
    go_wp2_with fail
    refine (pch_level G11 cb CA gC w17 D17.b).mono ?_
    rintro e w18 ⟨rfl, hB18⟩
    have D18 := D17.nextB hB18
    have hB := D18.s.below
    clear D17 D18 hB18
    go_wp2_with fail
    go_ret
    exact ⟨rfl, hB⟩
end Go.Proofs.YtaihcceobnfmhaaGreatDoor

namespace Go.Proofs.YtaihcceobnfmhaaGreatDoor
open Go.RowKit

set_option maxRecDepth 100000 in
set_option maxHeartbeats 1000000 in
theorem playAgain_out (seed : Nat) (a : Option Addr) (n cap : Nat) (c : Int) (hm : n ≤ 9223372036854775807) (h : ¬ (n ≤ 250 ∧ 0 ≤ c ∧ c ≤ n)) (A : Nat → Addr) (w : World) (hL : Laid w A) :
    Calls Tryz.prog 7 #[.int .u64 seed, .slice a n cap, .int .i64 c] w fun e w' => e = .returned (.bool true) ∧ Below w.heap.size w w' := by
  by_cases h1 : n ≤ 250
  · by_cases h2 : 0 ≤ c
    · have h3 : ¬ c ≤ n := fun g => h ⟨h1, h2, g⟩
      clear h
      go_enter Tryz.func7, Tryz.ntmps7
      go_wp2_with fail
      refine (played_of A w hL).mono ?_
      rintro e w1 ⟨rfl, hB1⟩
      go_wp2
      go_ret
      exact ⟨rfl, hB1⟩
    · clear h
      go_enter Tryz.func7, Tryz.ntmps7
      go_wp2_with fail
      refine (played_of A w hL).mono ?_
      rintro e w1 ⟨rfl, hB1⟩
      go_wp2
      go_ret
      exact ⟨rfl, hB1⟩
  · clear h
    go_enter Tryz.func7, Tryz.ntmps7
    go_wp2_with fail
    refine (played_of A w hL).mono ?_
    rintro e w1 ⟨rfl, hB1⟩
    go_wp2
    go_ret
    exact ⟨rfl, hB1⟩
theorem playAgain_any (seed : Nat) (hs : seed < W64) (a : Option Addr) (n cap : Nat) (c : Int) (A : Nat → Addr) (w : World) (hL : Laid w A) (s : IsInts w a n cap) :
    Calls Tryz.prog 7 #[.int .u64 seed, .slice a n cap, .int .i64 c] w fun e w' => e = .returned (.bool true) ∧ Below w.heap.size w w' := by
  by_cases h : n ≤ 250 ∧ 0 ≤ c ∧ c ≤ n
  · obtain ⟨h1, h2, h3⟩ := h
    obtain ⟨c, rfl⟩ : ∃ k : Nat, c = k := ⟨c.toNat, by omega⟩
    obtain ⟨W, hW, R, v1, v2, s1, s2, R1, R2⟩ := parts_read w a n cap c (by omega) s
    exact playAgain_walk seed hs a n cap c W hW A w hL h1 (by omega) v1 v2 s1 s2 R1 R2 R
  · refine playAgain_out seed a n cap c ?_ h A w hL
    rcases s with rfl | ⟨_, _, _, _, _, _, _, _, _⟩ <;> omega
end Go.Proofs.YtaihcceobnfmhaaGreatDoor
