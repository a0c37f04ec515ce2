/-
  What is left of the law SideRights behind side.Rights, alone.
  A WORKER: it asks for a number, makes what is asked of it, offers it, asks again; the numbers being closed, it leaves.
  THE STARTER HANDS OUT AND TAKES IN: in one select.
-/
import Derived.Test.YtmbfdhekplnoaaaDoorRefDrawX
import Derived.Test.YtmbfdhekplnoaaaDoorRefBakerX
import Derived.Test.YtmbfdhekplnoaaaDoorMidX
import Derived.Test.YtmbfdhekplnoaaaDoorProg
namespace Go.Proofs.YtmbfdhekplnoaaaDoor
open Go.RowKit

theorem WCase.wfS {w : World} {v : Value} {z p : Int} (h : WCase w v z p) : Calls Tryd.prog 18 #[v] w fun e w2 => e = .returned (.agg #[.int .i64 z, .int .i64 p]) ∧ Below w.heap.size w w2 := by
  cases h with
  | shape a n cap h hm e => subst e; exact wf_shape a n cap w h hm
  | bad b off n cap k0 W hI hb n1 n64 hk0 hG hbad e => subst e; exact wf_bad b off n cap k0 W w hI n1 n64 hk0 hG hbad
  | none b off n cap W hI hb hW h0 e => subst e; exact wf_fine b off n cap W w hI hW 4 (.inl ⟨rfl, h0⟩)
theorem ref_fault (a : Option Addr) (n cap seed : Nat) (hn : n ≤ 9223372036854775807) (W : Nat → Int) (c l z p : Int) (h : LvFault n W c l z p) (w : World) (hI : IntsAre w a n W) :
    Calls Tryd.prog 8 #[.slice a n cap, .int .u64 seed, .int .i64 c, .int .i64 l, .int .i64 0] w fun e w' => e = .returned (.tuple #[.int .i64 0, .agg #[.int .i64 z, .int .i64 p]]) ∧ Below w.heap.size w w' := by
  rcases h with ⟨h1, rfl, rfl⟩ | ⟨h1, h2⟩
  · exact ref_baker_bad a n cap seed c l 0 h1 w
  · exact ref_baker_fault (.slice a n cap) seed c l 0 z p h1 h2.pos.1 w fun w1 hB => (h2.w hn (hI.below hB)).wfS
theorem ref_fine (a : Option Addr) (n cap seed : Nat) (hs : seed < W64) (W : Nat → Int) (c l : Int) (h : LvFine n W c l) (r : Nat) (hr : r < 8) (w : World) (hI : IntsAre w a n W) :
    Calls Tryd.prog 8 #[.slice a n cap, .int .u64 seed, .int .i64 c, .int .i64 l, .int .i64 r] w fun e w' => ∃ k, e = .returned (.tuple #[.int .i64 k, .agg #[.int .i64 0, .int .i64 (-1)]]) ∧ Turn n W seed c l r k ∧ Below w.heap.size w w' := by
  obtain ⟨h1, h2, h3⟩ := h
  rcases hI with q | ⟨b, off, rfl, hb, hI⟩
  · have := h2.1; omega
  · exact ref_baker_fine b off n cap seed W c l r ⟨h1.1, h1.2.1, by omega, by omega⟩ hs w hI hb h2 h3
theorem faulted3_of {w : World} {x : Value} {c p : Int} (h : Tells w x c p) : Calls Tryd.prog 9 #[x, .agg #[.int .i64 c, .int .i64 p]] w fun e w' => e = .returned (.bool true) ∧ Below w.heap.size w w' := by
  have H := hide (h (w.alloc (.cells #[.int .i64 c, .int .i64 p] 32)) ((Below.refl _ _).alloc (Nat.le_refl _) _))
  clear h
  go_enter Tryd.func9, Tryd.ntmps9
  go_wp2_with fail
  refine H.out.mono ?_
  rintro e w' ⟨rfl, hB0⟩
  have hB : Below w.heap.size w w' := ((Below.refl _ _).alloc (Nat.le_refl _) _).trans (hB0.mono (by simp))
  have c0 : w'.cell? ⟨w.heap.size, 0, none⟩ = some (.int .i64 c) := by rw [hB0.cell (p := ⟨w.heap.size, 0, none⟩) (by simp)]; simp
  have c1 : w'.cell? ⟨w.heap.size, 1, none⟩ = some (.int .i64 p) := by rw [hB0.cell (p := ⟨w.heap.size, 1, none⟩) (by simp)]; simp
  clear hB0
  by_cases hc : c = 0
  · subst hc
    go_wp2
    go_ret
    exact ⟨rfl, hB⟩
  · have t0 : (c == 0) = false := by simp; exact hc
    clear hc
    go_wp2
    go_ret
    exact ⟨rfl, hB⟩
noncomputable def tailC : Code := match Tryd.f3.body with
  | some (.seq _ (.seq _ (.seq _ (.seq _ t)))) => t
  | _ => .skip
def RightsEnd (w : World) (A : Nat → Addr) (n : Nat) (W : Nat → Int) (seed : Nat) (c : Int) (ll : Nat) (Lv : Nat → Int) (wk : Int) (s ev : Value) : Prop :=
  (¬ (1 ≤ wk ∧ wk ≤ 16) ∧ ev = sent (A 2) ∧ s = .slice none 0 0) ∨ ((1 ≤ wk ∧ wk ≤ 16) ∧ 100 < ll ∧ ev = sent (A 1) ∧ s = .slice none 0 0) ∨ ((1 ≤ wk ∧ wk ≤ 16) ∧ ll ≤ 100 ∧ AllEnd w A n W seed c ll Lv s ev)
theorem fine3 (w : World) : Calls Tryd.prog 17 #[] w fun e w' => e = .returned (.agg #[.int .i64 0, .int .i64 (-1)]) ∧ w' = w.alloc (.cells #[.int .i64 0, .int .i64 (-1)] 32) := by
  go_enter Tryd.func17, Tryd.ntmps17
  go_wp2
  exact bodyPost_ret (v := .agg #[.int .i64 0, .int .i64 (-1)]) (by simp [results, Tryd.results17, go_sem]) rfl ⟨rfl, rfl⟩
theorem bare3 (c : Int) (w : World) : Calls Tryd.prog 16 #[.int .i64 c] w fun e w' => e = .returned (.agg #[.int .i64 c, .int .i64 (-1)]) ∧ w' = w.alloc (.cells #[.int .i64 c, .int .i64 (-1)] 32) := by
  go_enter Tryd.func16, Tryd.ntmps16
  go_wp2
  exact bodyPost_ret (v := .agg #[.int .i64 c, .int .i64 (-1)]) (by simp [results, Tryd.results16, go_sem]) rfl ⟨rfl, rfl⟩
theorem workers_bad (wk many : Int) (h : ¬ (1 ≤ wk ∧ wk ≤ 16)) (w : World) : Calls Tryd.prog 7 #[.int .i64 wk, .int .i64 many] w fun e w' => e = .returned (.agg #[.int .i64 3, .int .i64 (-1)]) ∧ Below w.heap.size w w' := by
  by_cases h1 : wk < 1
  · go_enter Tryd.func7, Tryd.ntmps7
    go_wp2_with (go_at_call 16; refine (bare3 3 _).mono ?_; rintro e w' ⟨rfl, rfl⟩)
    exact bodyPost_ret (v := .agg #[.int .i64 3, .int .i64 (-1)]) (by simp [results, Tryd.results7, go_sem]) rfl ⟨rfl, by
      have b0 : Below w.heap.size w (w.alloc (.cells #[.int .i64 3, .int .i64 (-1)] 32)) := (Below.refl _ _).alloc (Nat.le_refl _) _
      exact b0.alloc b0.size _⟩
  · have h2 : 16 < wk := by omega
    go_enter Tryd.func7, Tryd.ntmps7
    go_wp2_with (go_at_call 16; refine (bare3 3 _).mono ?_; rintro e w' ⟨rfl, rfl⟩)
    exact bodyPost_ret (v := .agg #[.int .i64 3, .int .i64 (-1)]) (by simp [results, Tryd.results7, go_sem]) rfl ⟨rfl, by
      have b0 : Below w.heap.size w (w.alloc (.cells #[.int .i64 3, .int .i64 (-1)] 32)) := (Below.refl _ _).alloc (Nat.le_refl _) _
      exact b0.alloc b0.size _⟩
theorem workers_long (wk many : Int) (h1 : 1 ≤ wk) (h2 : wk ≤ 16) (h3 : 100 < many) (w : World) : Calls Tryd.prog 7 #[.int .i64 wk, .int .i64 many] w fun e w' => e = .returned (.agg #[.int .i64 2, .int .i64 (-1)]) ∧ Below w.heap.size w w' := by
  have q1 : ¬ wk < 1 := by omega
  have q2 : ¬ 16 < wk := by omega
  go_enter Tryd.func7, Tryd.ntmps7
  go_wp2_with (go_at_call 16; refine (bare3 2 _).mono ?_; rintro e w' ⟨rfl, rfl⟩)
  exact bodyPost_ret (v := .agg #[.int .i64 2, .int .i64 (-1)]) (by simp [results, Tryd.results7, go_sem]) rfl ⟨rfl, by
    have b0 : Below w.heap.size w (w.alloc (.cells #[.int .i64 2, .int .i64 (-1)] 32)) := (Below.refl _ _).alloc (Nat.le_refl _) _
    exact b0.alloc b0.size _⟩
theorem workers_ok (wk many : Int) (h1 : 1 ≤ wk) (h2 : wk ≤ 16) (h3 : many ≤ 100) (w : World) : Calls Tryd.prog 7 #[.int .i64 wk, .int .i64 many] w fun e w' => e = .returned (.agg #[.int .i64 0, .int .i64 (-1)]) ∧ Below w.heap.size w w' := by
  have q1 : ¬ wk < 1 := by omega
  have q2 : ¬ 16 < wk := by omega
  have q3 : ¬ 100 < many := by omega
  go_enter Tryd.func7, Tryd.ntmps7
  go_wp2_with (go_at_call 17; refine (fine3 _).mono ?_; rintro e w' ⟨rfl, rfl⟩)
  exact bodyPost_ret (v := .agg #[.int .i64 0, .int .i64 (-1)]) (by simp [results, Tryd.results7, go_sem]) rfl ⟨rfl, by
    have b0 : Below w.heap.size w (w.alloc (.cells #[.int .i64 0, .int .i64 (-1)] 32)) := (Below.refl _ _).alloc (Nat.le_refl _) _
    exact b0.alloc b0.size _⟩
set_option maxRecDepth 100000 in
set_option maxHeartbeats 4000000 in
theorem tail_bad (a la : Option Addr) (n cap ll lc seed : Nat) (hll : ll ≤ 110) (c wk : Int) (k : Nat) (hk : k < 10) (sa : Option Addr) (sc : Nat) (A : Nat → Addr) (w : World) (hL : Laid w A)
    (hW : ∀ w1, Below w.heap.size w w1 → Calls Tryd.prog 7 #[.int .i64 wk, .int .i64 ll] w1 fun e w' => e = .returned (.agg #[.int .i64 (k + 1 : Int), .int .i64 (-1)]) ∧ Below w1.heap.size w1 w')
    (u22 u23 u24 u25 u26 u27 u28 u29 u30 u31 u32 u33 u34 u35 u36 u37 u38 u39 u40 u41 u42 u43 u44 u45 u46 : Value) :
    tailC.wp Tryd.prog (bodyPost Tryd.prog Tryd.f3 fun e w' => e = .returned (.bool true) ∧ Below w.heap.size w w') ⟨#[.slice a n cap, .int .u64 seed, .int .i64 c, .slice la ll lc, .int .i64 wk, undef, undef, undef, undef, undef, .bool false, .bool true, .slice sa 0 sc, sent (A k), undef, undef, undef, undef, undef, undef, undef, undef, u22, u23, u24, u25, u26, u27, u28, u29, u30, u31, u32, u33, u34, u35, u36, u37, u38, u39, u40, u41, u42, u43, u44, u45, u46, undef, undef, undef, undef, undef, undef, undef, undef, undef, undef, undef, undef, undef, undef, undef, undef, undef, undef, undef, undef, undef, undef, undef, undef, undef, undef, undef, undef, undef, undef, undef, undef, undef, undef, undef, undef, undef, undef, undef, undef, undef, undef, undef, undef, undef, undef, undef, undef, undef, undef, undef, undef, undef, undef, undef, undef, undef, undef, undef, undef, undef, undef, undef, undef, undef, undef, undef, undef, undef, undef, undef, undef, undef, undef, undef, undef, undef, undef, undef, undef, undef, undef, undef, undef, undef, undef, undef, undef, undef, undef], []⟩ w := by
  have P := hW w (Below.refl _ _)
  unfold tailC
  simp only [Tryd.f3]
  clear hW
  go_wp2_with fail
  refine P.mono ?_
  rintro e w1 ⟨rfl, hB1⟩
  clear P
  have al : Below w1.heap.size w1 (w1.alloc (.cells #[.int .i64 (k + 1 : Int), .int .i64 (-1)] 32)) := (Below.refl _ _).alloc (Nat.le_refl _) _
  have s0 : (w1.alloc (.cells #[.int .i64 (k + 1 : Int), .int .i64 (-1)] 32)).cell? ⟨w1.heap.size, 0, none⟩ = some (.int .i64 (k + 1 : Int)) := cell_new _ _ _ _ _ _ rfl rfl
  have s1 : (w1.alloc (.cells #[.int .i64 (k + 1 : Int), .int .i64 (-1)] 32)).cell? ⟨w1.heap.size, 1, none⟩ = some (.int .i64 (-1)) := cell_new _ _ _ _ _ _ rfl rfl
  have B2 : Below w.heap.size w (w1.alloc (.cells #[.int .i64 (k + 1 : Int), .int .i64 (-1)] 32)) := hB1.alloc hB1.size _
  have T := hide (tells_sent (hL.below B2) k hk)
  have z0 : ((k : Int) + 1 == 0) = false := by simp; omega
  have z1 : 0 < (k : Int) + 1 := by omega
  clear al hB1 hL
  go_wp2_with fail
  generalize w1.heap.size = nf at *
  generalize w1.alloc (.cells #[.int .i64 (k + 1 : Int), .int .i64 (-1)] 32) = w2 at *
  go_loopw [15] (fun i wr => i = .int .i64 0 ∧ wr = w2) (fun _ _ => 0)
  case atStart => exact ⟨rfl, rfl⟩
  case round =>
    obtain ⟨rfl, hwr⟩ := hrel
    obtain rfl := hwr.symm
    clear hwr
    by_cases l0 : ll = 0
    · subst l0
      go_wp2_with fail
      refine (faulted3_of T.out).mono ?_
      rintro e w3 ⟨rfl, hB3⟩
      have B3 := B2.trans (hB3.mono B2.size)
      clear hB3
      go_wp2_with fail
      go_ret
      exact ⟨rfl, B3⟩
    · have l1 : (0 : Int) < (ll : Int) := by omega
      go_wp2_with fail
      refine (faulted3_of T.out).mono ?_
      rintro e w3 ⟨rfl, hB3⟩
      have B3 := B2.trans (hB3.mono B2.size)
      clear hB3
      go_wp2_with fail
      go_ret
      exact ⟨rfl, B3⟩
set_option maxRecDepth 100000 in
set_option maxHeartbeats 4000000 in
theorem tail_fault (a : Option Addr) (lb lo n cap ll lc seed : Nat) (hs : seed < W64) (hn : n ≤ 100) (hll : ll ≤ 110) (W Lv : Nat → Int) (c wk : Int) (i0 i m : Nat) (p : Int) (hi0 : i0 < ll) (hfine : Hid (∀ j, j < i0 → LvFine n W c (Lv j))) (hi : i < 10) (hF : Hid (LvFault n W c (Lv i0) (i + 1) p)) (sa : Option Addr) (sc : Nat) (A : Nat → Addr) (w : World) (hL : Laid w A) (hI : IntsAre w a n W) (_hlb : lb < w.heap.size) (hJ : Ints w lb lo ll Lv)
    (m0 : w.cell? ⟨m, 0, none⟩ = some (.int .i64 i0)) (m1 : w.cell? ⟨m, 1, none⟩ = some (sent (A i))) (h1 : 1 ≤ wk) (h2 : wk ≤ 16) (h3 : ll ≤ 100)
    (u22 u23 u24 u25 u26 u27 u28 u29 u30 u31 u32 u33 u34 u35 u36 u37 u38 u39 u40 u41 u42 u43 u44 u45 u46 : Value) :
    tailC.wp Tryd.prog (bodyPost Tryd.prog Tryd.f3 fun e w' => e = .returned (.bool true) ∧ Below w.heap.size w w') ⟨#[.slice a n cap, .int .u64 seed, .int .i64 c, .slice (some ⟨lb, lo, none⟩) ll lc, .int .i64 wk, undef, undef, undef, undef, undef, .bool false, .bool true, .slice sa 0 sc, fault m, undef, undef, undef, undef, undef, undef, undef, undef, u22, u23, u24, u25, u26, u27, u28, u29, u30, u31, u32, u33, u34, u35, u36, u37, u38, u39, u40, u41, u42, u43, u44, u45, u46, undef, undef, undef, undef, undef, undef, undef, undef, undef, undef, undef, undef, undef, undef, undef, undef, undef, undef, undef, undef, undef, undef, undef, undef, undef, undef, undef, undef, undef, undef, undef, undef, undef, undef, undef, undef, undef, undef, undef, undef, undef, undef, undef, undef, undef, undef, undef, undef, undef, undef, undef, undef, undef, undef, undef, undef, undef, undef, undef, undef, undef, undef, undef, undef, undef, undef, undef, undef, undef, undef, undef, undef, undef, undef, undef, undef, undef, undef, undef, undef, undef, undef, undef, undef, undef, undef, undef, undef, undef, undef], []⟩ w := by
  have P := workers_ok wk ll h1 h2 (by omega) w
  unfold tailC
  simp only [Tryd.f3]
  go_wp2_with fail
  refine P.mono ?_
  rintro e w1 ⟨rfl, hB1⟩
  clear P
  have s0 : (w1.alloc (.cells #[.int .i64 0, .int .i64 (-1)] 32)).cell? ⟨w1.heap.size, 0, none⟩ = some (.int .i64 0) := cell_new _ _ _ _ _ _ rfl rfl
  have s1 : (w1.alloc (.cells #[.int .i64 0, .int .i64 (-1)] 32)).cell? ⟨w1.heap.size, 1, none⟩ = some (.int .i64 (-1)) := cell_new _ _ _ _ _ _ rfl rfl
  have f0 : ∀ j, (w1.alloc (.cells #[.int .i64 0, .int .i64 (-1)] 32)).frozen? ⟨w1.heap.size, j, none⟩ = false := fun j => World.frozen?_alloc_at _ _ _ _ rfl
  have B2 : Below w.heap.size w (w1.alloc (.cells #[.int .i64 0, .int .i64 (-1)] 32)) := hB1.alloc hB1.size _
  have wl : w.heap.size ≤ w1.heap.size := hB1.size
  clear hB1
  go_wp2_with fail
  generalize w1.heap.size = nf at *
  generalize w1.alloc (.cells #[.int .i64 0, .int .i64 (-1)] 32) = w2 at *
  go_loopw [15] (fun x wr => ∃ k : Nat, x = .int .i64 k ∧ Below w.heap.size w wr ∧ (∀ j, wr.frozen? ⟨nf, j, none⟩ = false) ∧ ((k ≤ i0 ∧ wr.cell? ⟨nf, 0, none⟩ = some (.int .i64 0) ∧ wr.cell? ⟨nf, 1, none⟩ = some (.int .i64 (-1))) ∨ (k = i0 + 1 ∧ wr.cell? ⟨nf, 0, none⟩ = some (.int .i64 (i + 1 : Int)) ∧ wr.cell? ⟨nf, 1, none⟩ = some (.int .i64 i0)))) (fun x _ => i0 + 1 - (intOf x).toNat)
  case atStart => exact ⟨0, rfl, B2, f0, .inl ⟨Nat.zero_le _, s0, s1⟩⟩
  case round =>
    obtain ⟨k, rfl, hB, fz, hm⟩ := hrel
    clear s0 s1 f0 B2
    have lf : nf < wr.heap.size := by rcases hm with ⟨_, q, _⟩ | ⟨_, q, _⟩ <;> exact cell_lt q
    rcases hm with ⟨hk, t0, t1⟩ | ⟨rfl, t0, t1⟩
    · have q1 : (k : Int) < (ll : Int) := by omega
      have cl := draw_old hB (hJ k (by omega))
      have f0 := fz 0
      have f1 := fz 1
      have Ir := hide (hI.below hB)
      have HJ := hide hJ
      clear hJ
      rcases Nat.lt_or_ge k i0 with q | q
      · have P := ref_fine a n cap seed hs W c (Lv k) (hfine.out k q) 0 (by omega) wr Ir.out
        go_wp2_with fail
        refine P.mono ?_
        rintro e w5 ⟨x, rfl, _, hB5⟩
        have B5 := hB.trans (hB5.mono hB.size)
        have e0 := draw_old hB5 t0
        have e1 := draw_old hB5 t1
        have fz5 : ∀ j, w5.frozen? ⟨nf, j, none⟩ = false := fun j => by rw [hB5.frozen (p := ⟨nf, j, none⟩) lf]; exact fz j
        have B6 : ∀ o, Hid (Below w.heap.size w (w5.alloc o)) := fun o => hide (B5.alloc B5.size o)
        have l5 : nf < w5.heap.size := cell_lt e0
        have al : ∀ {x : Addr} {v : Value} o, w5.cell? x = some v → (w5.alloc o).cell? x = some v := fun o h => draw_old ((Below.refl _ _).alloc (Nat.le_refl _) o) h
        have g0 := al (.cells #[.int .i64 0, .int .i64 (-1)] 32) e0
        have g1 := al (.cells #[.int .i64 0, .int .i64 (-1)] 32) e1
        have fz6 : ∀ j, (w5.alloc (.cells #[.int .i64 0, .int .i64 (-1)] 32)).frozen? ⟨nf, j, none⟩ = false := fun j => by rw [((Below.refl w5.heap.size w5).alloc (Nat.le_refl _) (.cells #[.int .i64 0, .int .i64 (-1)] 32)).frozen (p := ⟨nf, j, none⟩) l5]; exact fz5 j
        clear P hB5 fz fz5 al t0 t1 cl B5 hB
        go_wp2_with fail
        go_roundw
        case rel => exact ⟨k + 1, by go_num, (B6 _).out, fz6, .inl ⟨by omega, g0, g1⟩⟩
        case measure => simp [intOf]; omega
      · obtain rfl : k = i0 := by omega
        have P := ref_fault a n cap seed (by omega) W c (Lv k) _ p hF.out wr Ir.out
        go_wp2_with fail
        refine P.mono ?_
        rintro e w5 ⟨rfl, hB5⟩
        have B5 := hB.trans (hB5.mono hB.size)
        have e0 := draw_old hB5 t0
        have e1 := draw_old hB5 t1
        have fz5 : ∀ j, w5.frozen? ⟨nf, j, none⟩ = false := fun j => by rw [hB5.frozen (p := ⟨nf, j, none⟩) lf]; exact fz j
        have l5 : nf < w5.heap.size := cell_lt e0
        have z1 : 0 < (i : Int) + 1 := by omega
        clear P hB5 fz t0 t1 cl hB
        go_wp2_with fail
        go_roundw
        case rel =>
          have ne : (⟨nf, 0, none⟩ : Addr) ≠ ⟨nf, 1, none⟩ := by simp
          have b7 := (B5.setCell (p := ⟨nf, 0, none⟩) wl (.int .i64 (i + 1 : Int))).setCell (p := ⟨nf, 1, none⟩) wl (.int .i64 k)
          have y0 : ((w5.setCell ⟨nf, 0, none⟩ (.int .i64 (i + 1 : Int))).setCell ⟨nf, 1, none⟩ (.int .i64 k)).cell? ⟨nf, 0, none⟩ = some (.int .i64 (i + 1 : Int)) := by
            rw [World.cell?_setCell_other _ _ _ _ ne.symm]
            exact World.cell?_setCell_same _ _ _ e0
          have y1 : ((w5.setCell ⟨nf, 0, none⟩ (.int .i64 (i + 1 : Int))).setCell ⟨nf, 1, none⟩ (.int .i64 k)).cell? ⟨nf, 1, none⟩ = some (.int .i64 k) := by
            refine World.cell?_setCell_same _ _ _ (u := .int .i64 (-1)) ?_
            rw [World.cell?_setCell_other _ _ _ _ ne]
            exact e1
          have y2 : ∀ j, ((w5.setCell ⟨nf, 0, none⟩ (.int .i64 (i + 1 : Int))).setCell ⟨nf, 1, none⟩ (.int .i64 k)).frozen? ⟨nf, j, none⟩ = false := fun j => by rw [World.frozen?_setCell, World.frozen?_setCell]; exact fz5 j
          have l7 : nf < ((w5.setCell ⟨nf, 0, none⟩ (.int .i64 (i + 1 : Int))).setCell ⟨nf, 1, none⟩ (.int .i64 k)).heap.size := cell_lt y0
          generalize (w5.setCell ⟨nf, 0, none⟩ (.int .i64 (i + 1 : Int))).setCell ⟨nf, 1, none⟩ (.int .i64 k) = w7 at *
          have al : Below w7.heap.size w7 (w7.alloc (.cells #[.int .i64 (i + 1 : Int), .int .i64 p] 32)) := (Below.refl _ _).alloc (Nat.le_refl _) _
          refine ⟨k + 1, by go_num, b7.alloc b7.size _, fun j => ?_, .inr ⟨rfl, draw_old al y0, draw_old al y1⟩⟩
          rw [al.frozen (p := ⟨nf, j, none⟩) l7]
          exact y2 j
        case measure => simp [intOf]
    · have z0 : ((i : Int) + 1 == 0) = false := by simp; omega
      have z1 : 0 < (i : Int) + 1 := by omega
      have T := hide (tells_flt (hL.below hB) m i i0 hi (draw_old hB m0) (draw_old hB m1))
      clear hL hJ fz hI
      by_cases ql : (i0 : Int) + 1 < (ll : Int)
      · go_wp2_with fail
        refine (faulted3_of T.out).mono ?_
        rintro e w3 ⟨rfl, hB3⟩
        have B3 := hB.trans (hB3.mono hB.size)
        clear hB3
        go_wp2_with fail
        go_ret
        exact ⟨rfl, B3⟩
      · go_wp2_with fail
        refine (faulted3_of T.out).mono ?_
        rintro e w3 ⟨rfl, hB3⟩
        have B3 := hB.trans (hB3.mono hB.size)
        clear hB3
        go_wp2_with fail
        go_ret
        exact ⟨rfl, B3⟩
set_option maxRecDepth 100000 in
set_option maxHeartbeats 4000000 in
theorem tail_fine (a : Option Addr) (lb lo n cap ll lc seed : Nat) (hs : seed < W64) (hll : ll ≤ 110) (W Lv : Nat → Int) (c wk : Int) (mo oc : Nat) (w : World) (hI : IntsAre w a n W) (hJ : Ints w lb lo ll Lv) (h1 : 1 ≤ wk) (h2 : wk ≤ 16) (h3 : ll ≤ 100)
    (hfine : Hid (∀ j, j < ll → LvFine n W c (Lv j))) (hout : Hid (∀ j, j < ll → ∃ mj cj K, w.cell? ⟨mo, j, none⟩ = some (.slice (some ⟨mj, 0, none⟩) 8 cj) ∧ mj < w.heap.size ∧ Ints w mj 0 8 K ∧ ∀ r : Nat, r < 8 → Turn n W seed c (Lv j) r (K r)))
    (u22 u23 u24 u25 u26 u27 u28 u29 u30 u31 u32 u33 u34 u35 u36 u37 u38 u39 u40 u41 u42 u43 u44 u45 u46 : Value) :
    tailC.wp Tryd.prog (bodyPost Tryd.prog Tryd.f3 fun e w' => e = .returned (.bool true) ∧ Below w.heap.size w w') ⟨#[.slice a n cap, .int .u64 seed, .int .i64 c, .slice (some ⟨lb, lo, none⟩) ll lc, .int .i64 wk, undef, undef, undef, undef, undef, .bool false, .bool true, .slice (some ⟨mo, 0, none⟩) ll oc, .nilIface, undef, undef, undef, undef, undef, undef, undef, undef, u22, u23, u24, u25, u26, u27, u28, u29, u30, u31, u32, u33, u34, u35, u36, u37, u38, u39, u40, u41, u42, u43, u44, u45, u46, undef, undef, undef, undef, undef, undef, undef, undef, undef, undef, undef, undef, undef, undef, undef, undef, undef, undef, undef, undef, undef, undef, undef, undef, undef, undef, undef, undef, undef, undef, undef, undef, undef, undef, undef, undef, undef, undef, undef, undef, undef, undef, undef, undef, undef, undef, undef, undef, undef, undef, undef, undef, undef, undef, undef, undef, undef, undef, undef, undef, undef, undef, undef, undef, undef, undef, undef, undef, undef, undef, undef, undef, undef, undef, undef, undef, undef, undef, undef, undef, undef, undef, undef, undef, undef, undef, undef, undef, undef, undef], []⟩ w := by
  have P := workers_ok wk ll h1 h2 (by omega) w
  unfold tailC
  simp only [Tryd.f3]
  go_wp2_with fail
  refine P.mono ?_
  rintro e w1 ⟨rfl, hB1⟩
  clear P
  have s0 : (w1.alloc (.cells #[.int .i64 0, .int .i64 (-1)] 32)).cell? ⟨w1.heap.size, 0, none⟩ = some (.int .i64 0) := cell_new _ _ _ _ _ _ rfl rfl
  have s1 : (w1.alloc (.cells #[.int .i64 0, .int .i64 (-1)] 32)).cell? ⟨w1.heap.size, 1, none⟩ = some (.int .i64 (-1)) := cell_new _ _ _ _ _ _ rfl rfl
  have B2 : Below w.heap.size w (w1.alloc (.cells #[.int .i64 0, .int .i64 (-1)] 32)) := hB1.alloc hB1.size _
  clear hB1
  go_wp2_with fail
  generalize w1.heap.size = nf at *
  generalize w1.alloc (.cells #[.int .i64 0, .int .i64 (-1)] 32) = w2 at *
  go_loopw [15] (fun x wr => ∃ k : Nat, x = .int .i64 k ∧ k ≤ ll ∧ Below w.heap.size w wr ∧ wr.cell? ⟨nf, 0, none⟩ = some (.int .i64 0) ∧ wr.cell? ⟨nf, 1, none⟩ = some (.int .i64 (-1))) (fun x _ => ll - (intOf x).toNat)
  case atStart => exact ⟨0, rfl, Nat.zero_le _, B2, s0, s1⟩
  case round =>
    obtain ⟨k, rfl, hk, hB, t0, t1⟩ := hrel
    clear s0 s1 B2
    have Ir := hide (hI.below hB)
    rcases Nat.lt_or_ge k ll with q | q
    · have q1 : (k : Int) < (ll : Int) := by omega
      have cl := draw_old hB (hJ k (by omega))
      have HJ := hide hJ
      clear hJ
      have P := ref_fine a n cap seed hs W c (Lv k) (hfine.out k q) 0 (by omega) wr Ir.out
      go_wp2_with fail
      refine P.mono ?_
      rintro e w5 ⟨x, rfl, _, hB5⟩
      have B5 := hB.trans (hB5.mono hB.size)
      have e0 := draw_old hB5 t0
      have e1 := draw_old hB5 t1
      have B6 : ∀ o, Hid (Below w.heap.size w (w5.alloc o)) := fun o => hide (B5.alloc B5.size o)
      have al : ∀ {x : Addr} {v : Value} o, w5.cell? x = some v → (w5.alloc o).cell? x = some v := fun o h => draw_old ((Below.refl _ _).alloc (Nat.le_refl _) o) h
      have g0 := al (.cells #[.int .i64 0, .int .i64 (-1)] 32) e0
      have g1 := al (.cells #[.int .i64 0, .int .i64 (-1)] 32) e1
      clear P hB5 al t0 t1 cl B5 hB
      go_wp2_with fail
      go_roundw
      case rel => exact ⟨k + 1, by go_num, by omega, (B6 _).out, g0, g1⟩
      case measure => simp [intOf]; omega
    · obtain rfl : k = ll := by omega
      have HJ := hide hJ
      clear hJ
      go_wp2_with fail
      go_loopw [18] (fun x wr2 => ∃ j : Nat, x = .int .i64 j ∧ j ≤ k ∧ Below w.heap.size w wr2) (fun x _ => k - (intOf x).toNat)
      case atStart => exact ⟨0, rfl, Nat.zero_le _, hB⟩
      case round =>
        obtain ⟨j, rfl, hj, hBj⟩ := hrel
        clear t0 t1 Ir hB
        rename World => wj
        rcases Nat.lt_or_ge j k with qj | qj
        · have qj1 : (j : Int) < (k : Int) := by omega
          obtain ⟨mj, cj, K, o1, o2, o3, o4⟩ := hout.out j qj
          have p1 := draw_old hBj o1
          have O3 := hide o3
          have O4 := hide o4
          clear o3 o4
          go_wp2_with fail
          go_loopw [19] (fun x wr3 => ∃ r : Nat, x = .int .i64 r ∧ r ≤ 8 ∧ Below w.heap.size w wr3) (fun x _ => 8 - (intOf x).toNat)
          case atStart => exact ⟨0, rfl, Nat.zero_le _, hBj⟩
          case round =>
            obtain ⟨r, rfl, hr, hBr⟩ := hrel
            clear p1 hBj
            rename World => wi
            rcases Nat.lt_or_ge r 8 with qr | qr
            · have qr1 : (r : Int) < 8 := by omega
              have cl := draw_old hBr (HJ.out j qj)
              have P := ref_fine a n cap seed hs W c (Lv j) (hfine.out j qj) r qr wi (hI.below hBr)
              go_wp2_with fail
              refine P.mono ?_
              rintro e w5 ⟨x, rfl, T, hB5⟩
              have B5 := hBr.trans (hB5.mono hBr.size)
              obtain rfl : x = K r := T.one (O4.out r qr)
              have B6 : Below w.heap.size w (w5.alloc (.cells #[.int .i64 0, .int .i64 (-1)] 32)) := B5.alloc B5.size _
              have g0 := draw_old B6 o1
              have g1 := draw_old B6 (O3.out r qr)
              rw [Nat.zero_add] at g1
              have bq : (K r == K r) = true := by simp
              clear P hB5 B5 T cl hBr
              go_wp2_with fail
              go_roundw
              case rel => exact ⟨r + 1, by go_num, by omega, B6⟩
              case measure => simp [intOf]; omega
            · obtain rfl : r = 8 := by omega
              go_wp2_with fail
              go_roundw
              case rel => exact ⟨j + 1, by go_num, by omega, hBr⟩
              case measure => simp [intOf]; omega
        · obtain rfl : j = k := by omega
          go_wp2_with fail
          go_ret
          exact ⟨rfl, hBj⟩
set_option maxRecDepth 100000 in
set_option maxHeartbeats 4000000 in
theorem tail_none (a la sa : Option Addr) (n cap lc oc seed : Nat) (c wk : Int) (w : World) (h1 : 1 ≤ wk) (h2 : wk ≤ 16)
    (u22 u23 u24 u25 u26 u27 u28 u29 u30 u31 u32 u33 u34 u35 u36 u37 u38 u39 u40 u41 u42 u43 u44 u45 u46 : Value) :
    tailC.wp Tryd.prog (bodyPost Tryd.prog Tryd.f3 fun e w' => e = .returned (.bool true) ∧ Below w.heap.size w w') ⟨#[.slice a n cap, .int .u64 seed, .int .i64 c, .slice la 0 lc, .int .i64 wk, undef, undef, undef, undef, undef, .bool false, .bool true, .slice sa 0 oc, .nilIface, undef, undef, undef, undef, undef, undef, undef, undef, u22, u23, u24, u25, u26, u27, u28, u29, u30, u31, u32, u33, u34, u35, u36, u37, u38, u39, u40, u41, u42, u43, u44, u45, u46, undef, undef, undef, undef, undef, undef, undef, undef, undef, undef, undef, undef, undef, undef, undef, undef, undef, undef, undef, undef, undef, undef, undef, undef, undef, undef, undef, undef, undef, undef, undef, undef, undef, undef, undef, undef, undef, undef, undef, undef, undef, undef, undef, undef, undef, undef, undef, undef, undef, undef, undef, undef, undef, undef, undef, undef, undef, undef, undef, undef, undef, undef, undef, undef, undef, undef, undef, undef, undef, undef, undef, undef, undef, undef, undef, undef, undef, undef, undef, undef, undef, undef, undef, undef, undef, undef, undef, undef, undef, undef], []⟩ w := by
  have P := workers_ok wk 0 h1 h2 (by omega) w
  unfold tailC
  simp only [Tryd.f3]
  go_wp2_with fail
  refine P.mono ?_
  rintro e w1 ⟨rfl, hB1⟩
  clear P
  have s0 : (w1.alloc (.cells #[.int .i64 0, .int .i64 (-1)] 32)).cell? ⟨w1.heap.size, 0, none⟩ = some (.int .i64 0) := cell_new _ _ _ _ _ _ rfl rfl
  have s1 : (w1.alloc (.cells #[.int .i64 0, .int .i64 (-1)] 32)).cell? ⟨w1.heap.size, 1, none⟩ = some (.int .i64 (-1)) := cell_new _ _ _ _ _ _ rfl rfl
  have B2 : Below w.heap.size w (w1.alloc (.cells #[.int .i64 0, .int .i64 (-1)] 32)) := hB1.alloc hB1.size _
  clear hB1
  go_wp2_with fail
  generalize w1.heap.size = nf at *
  generalize w1.alloc (.cells #[.int .i64 0, .int .i64 (-1)] 32) = w2 at *
  go_loopw [15] (fun x wr => x = .int .i64 0 ∧ wr = w2) (fun _ _ => 0)
  case atStart => exact ⟨rfl, rfl⟩
  case round =>
    obtain ⟨rfl, hwr⟩ := hrel
    obtain rfl := hwr.symm
    clear hwr
    go_wp2_with fail
    go_loopw [18] (fun x wr => x = .int .i64 0 ∧ wr = w2) (fun _ _ => 0)
    case atStart => exact ⟨rfl, rfl⟩
    case round =>
      obtain ⟨rfl, hwr⟩ := hrel
      obtain rfl := hwr.symm
      clear hwr
      go_wp2_with fail
      go_ret
      exact ⟨rfl, B2⟩
theorem tail_of (a la : Option Addr) (n cap ll lc seed : Nat) (hs : seed < W64) (hn : n ≤ 100) (hll : ll ≤ 110) (W Lv : Nat → Int) (c wk : Int) (s ev : Value) (A : Nat → Addr) (w : World) (hL : Laid w A) (hI : IntsAre w a n W) (hJ : IntsAre w la ll Lv) (hE : RightsEnd w A n W seed c ll Lv wk s ev)
    (u22 u23 u24 u25 u26 u27 u28 u29 u30 u31 u32 u33 u34 u35 u36 u37 u38 u39 u40 u41 u42 u43 u44 u45 u46 : Value) :
    tailC.wp Tryd.prog (bodyPost Tryd.prog Tryd.f3 fun e w' => e = .returned (.bool true) ∧ Below w.heap.size w w') ⟨#[.slice a n cap, .int .u64 seed, .int .i64 c, .slice la ll lc, .int .i64 wk, undef, undef, undef, undef, undef, .bool false, .bool true, s, ev, undef, undef, undef, undef, undef, undef, undef, undef, u22, u23, u24, u25, u26, u27, u28, u29, u30, u31, u32, u33, u34, u35, u36, u37, u38, u39, u40, u41, u42, u43, u44, u45, u46, undef, undef, undef, undef, undef, undef, undef, undef, undef, undef, undef, undef, undef, undef, undef, undef, undef, undef, undef, undef, undef, undef, undef, undef, undef, undef, undef, undef, undef, undef, undef, undef, undef, undef, undef, undef, undef, undef, undef, undef, undef, undef, undef, undef, undef, undef, undef, undef, undef, undef, undef, undef, undef, undef, undef, undef, undef, undef, undef, undef, undef, undef, undef, undef, undef, undef, undef, undef, undef, undef, undef, undef, undef, undef, undef, undef, undef, undef, undef, undef, undef, undef, undef, undef, undef, undef, undef, undef, undef, undef], []⟩ w := by
  rcases hE with ⟨h, rfl, rfl⟩ | ⟨h, h3, rfl, rfl⟩ | ⟨h, h3, hE⟩
  · exact tail_bad a la n cap ll lc seed hll c wk 2 (by omega) none 0 A w hL (fun w1 _ => workers_bad wk ll h w1) u22 u23 u24 u25 u26 u27 u28 u29 u30 u31 u32 u33 u34 u35 u36 u37 u38 u39 u40 u41 u42 u43 u44 u45 u46
  · exact tail_bad a la n cap ll lc seed hll c wk 1 (by omega) none 0 A w hL (fun w1 _ => workers_long wk ll h.1 h.2 (by omega) w1) u22 u23 u24 u25 u26 u27 u28 u29 u30 u31 u32 u33 u34 u35 u36 u37 u38 u39 u40 u41 u42 u43 u44 u45 u46
  · rcases hE with ⟨i0, i, m, p, hi0, hfine, hi, hF, rfl, rfl, m0, m1⟩ | ⟨hfine, m, oc, rfl, rfl, hm, ho⟩
    · rcases hJ with q | ⟨lb, lo, rfl, hlb, hJ⟩
      · omega
      · exact tail_fault a lb lo n cap ll lc seed hs hn hll W Lv c wk i0 i m p hi0 (hide hfine) hi (hide hF) none 0 A w hL hI hlb hJ m0 m1 h.1 h.2 h3 u22 u23 u24 u25 u26 u27 u28 u29 u30 u31 u32 u33 u34 u35 u36 u37 u38 u39 u40 u41 u42 u43 u44 u45 u46
    · rcases hJ with q | ⟨lb, lo, rfl, hlb, hJ⟩
      · subst q
        exact tail_none a la _ n cap lc oc seed c wk w h.1 h.2 u22 u23 u24 u25 u26 u27 u28 u29 u30 u31 u32 u33 u34 u35 u36 u37 u38 u39 u40 u41 u42 u43 u44 u45 u46
      · exact tail_fine a lb lo n cap ll lc seed hs hll W Lv c wk m oc w hI hJ h.1 h.2 h3 (hide hfine) (hide ho) u22 u23 u24 u25 u26 u27 u28 u29 u30 u31 u32 u33 u34 u35 u36 u37 u38 u39 u40 u41 u42 u43 u44 u45 u46
end Go.Proofs.YtmbfdhekplnoaaaDoor

namespace Go.Proofs.YtmbfdhekplnoaaaDoor
open Go Go.Conc Go.RowKit Go.ConcR.Gen

def loopOf : Option Code → Code
  | some (.seq _ (.block _ (.loop c))) => c
  | _ => .skip
noncomputable def wkC : Code := loopOf Tryd.f28.body
noncomputable def wkHead (T : Array Value) (cs : List Frame) : Goroutine := G ((base 28).at ⟨T, []⟩ [.code wkC, .inLoop wkC, .inBlock 0]) cs
def wkT (cn cb : Nat) (f : Value) (x : Array Value) : Array Value := #[.chan (some cn), .chan (some cb), f, x.getD 0 undef, x.getD 1 undef, x.getD 2 undef, x.getD 3 undef, .chan (some cn), x.getD 4 undef, x.getD 5 undef, x.getD 6 undef, x.getD 7 undef, x.getD 8 undef, x.getD 9 undef, x.getD 10 undef, x.getD 11 undef, x.getD 12 undef]
structure WkFacts (Env : World → Prop) (Sh O : Nat → Prop) (W : World) : Prop where
  env : Env W
  lt : ∀ b, O b ∨ Sh b → b < W.heap.size
structure WkAsk (F : Farm) (Env : World → Prop) (fv : Value) (A : Nat → Value → Value → (Nat → Prop) → World → Prop) : Prop where
  rely : ∀ O W W1, Rely O F.Sh W W1 → Env W → Env W1
  call : ∀ {Stop : Stp} (i : Nat), i < F.M → ∀ O W, WkFacts Env F.Sh O W → ∃ f cap, fv = .func (.func f) #[] cap ∧ (∃ g, F.P.funcs[f]? = some g ∧ (g.name == "runtime.NumGoroutine") = false ∧ g.body.isNone = false) ∧ CallW F.P false F.Sh Stop f (#[.int .i64 i] ++ cap) O W fun O' v W' => ∃ X s e, v = .agg #[s, e] ∧ (∀ b, O' b ↔ X b ∨ O b) ∧ (∀ b, X b → ¬ O b) ∧ A i s e X W' ∧ WkFacts Env F.Sh O' W'
  arely : ∀ i s e X W W1, A i s e X W → Rely X F.Sh W W1 → A i s e X W1
  one : ∀ i s e X W, A i s e X W → s.oneCell' = true ∧ e.oneCell' = true
  put : ∀ i s e X W, i < F.M → A i s e X W → F.R i (.agg #[.int .i64 i, s, e]) X W
theorem build_made (i : Int) (s e : Value) (w : World) : (Instr.build 107 #[(0, .int .i64 i), (1, .agg #[s, e])]).run Tryd.prog w = .ok (.agg #[.int .i64 i, s, e]) w := by kernel_rfl
theorem build_made_ev (i : Int) (s e : Value) (w : World) (es : Array Event) : (Instr.build 107 #[(0, .int .i64 i), (1, .agg #[s, e])]).events Tryd.prog w es = es := by kernel_rfl
section worker
variable {F : Farm} {Env : World → Prop} {fv : Value} {A : Nat → Value → Value → (Nat → Prop) → World → Prop}
theorem WkFacts.rely (K : WkAsk F Env fv A) {O : Nat → Prop} {W W1 : World} (h : WkFacts Env F.Sh O W) (r : Rely O F.Sh W W1) : WkFacts Env F.Sh O W1 := ⟨K.rely O W W1 r h.env, fun b q => Nat.lt_of_lt_of_le (h.lt b q) r.size⟩
set_option maxRecDepth 100000 in
theorem work_recv (K : WkAsk F Env fv A) (hP : F.P = Tryd.prog) (hnum : ∀ i : Nat, F.num i = .int .i64 i) {O : Nat → Prop} {cs : List Frame}
    (hover : ∀ x W, WkFacts Env F.Sh O W → GoesJ F.P false F.J F.Sh F.Done O (G ((base 28).at ⟨wkT F.cn F.cb fv x, []⟩ []) cs) W) :
    ∀ (n : Nat) (x : Array Value) (W : World), WkFacts Env F.Sh O W → GoesJ F.P false F.J F.Sh (KRecv F n) O (wkHead (wkT F.cn F.cb fv x) cs) W := by
  intro n
  induction n using Nat.strongRecOn with
  | ind n ih =>
    intro x W hF
    refine GoesJ.of ?_
    rw [hP]
    unfold wkHead wkT
    simp only [wkC, loopOf, Tryd.f28]
    refine Walks.idle rfl (fun _ => stepG_seq) ?_
    refine Walks.idle rfl (fun _ => stepG_region) ?_
    simp only [List.size_toArray, List.length_cons, List.length_nil, Nat.reduceAdd, Nat.zero_add, List.range, List.range.loop]
    refine Walks.stop fun W1 hr => ?_
    replace hF := hF.rely K hr
    clear hr
    refine KRecv.here (z := .int .i64 0) (sh := .recv true) (fun W2 => ?_) (fun W2 hr2 => ?_) (fun n' e i hi W2 hr2 => ?_)
    · rw [hP]
      refine (stepG_comm (cases := #[rcase F.cn (.int .i64 0)]) (blocking := true) (shape := .recv true) (w' := W2) rfl rfl (by k_ne) (by simp [go_sem, rcase])).trans ?_
      simp [listed, go_sem, seen_none]
    · -- the numbers are over
      replace hF := hF.rely K hr2.r
      rw [finish_G]
      simp only [commResult_recv]
      walk_nrm
      refine GoesJ.bind (S1 := fun O' g W => O' = O ∧ WkFacts Env F.Sh O W ∧ ∃ x, g = G ((base 28).at ⟨wkT F.cn F.cb fv x, []⟩ []) cs) (fun O' g W q => by obtain ⟨rfl, hF, x, rfl⟩ := q; exact hover x W hF) (Classical.choose_spec (GoesJ.of (J := F.J) ?_))
      rw [hP]
      refine walks_goes rfl (fun _ hr => ?_)
      replace hF := hF.rely K hr
      clear hr
      refine goes_oper_k rfl rfl (by k_ne) (fun K' hK => ?_)
      go_simp
      refine hK _ _ ⟨_, guar_none (fun e he => by have hm := mem_listed he; simp [go_sem, *] at hm), ?_⟩
      clear hK K'
      refine Walks.idle rfl (fun _ => stepG_region_end) ?_
      refine Walks.idle rfl (fun _ => stepG_seq) ?_
      refine Walks.idle rfl (fun _ => stepG_cond (t := false) rfl) ?_
      simp only [Bool.false_eq_true, ↓reduceIte]
      refine Walks.idle rfl (fun _ => stepG_exit rfl) ?_
      exact Walks.stop fun W3 hr => ⟨rfl, hF.rely K hr, #[_, _, _, _, _, _, _, _, _, _, _, _, _], rfl⟩
    · subst e
      replace hF := hF.rely K hr2.r
      rw [finish_G, hnum]
      simp only [commResult_recv]
      walk_nrm
      refine GoesJ.of ?_
      rw [hP]
      refine walks_goes rfl (fun _ hr => ?_)
      replace hF := hF.rely K hr
      clear hr
      refine goes_oper_k rfl rfl (by k_ne) (fun K' hK => ?_)
      go_simp
      refine hK _ _ ⟨_, guar_none (fun e he => by have hm := mem_listed he; simp [go_sem, *] at hm), ?_⟩
      clear hK K'
      refine Walks.idle rfl (fun _ => stepG_region_end) ?_
      refine Walks.idle rfl (fun _ => stepG_seq) ?_
      refine Walks.idle rfl (fun _ => stepG_cond (t := true) rfl) ?_
      simp only [if_true]
      refine Walks.idle rfl (fun _ => stepG_skip) ?_
      refine Walks.idle rfl (fun _ => stepG_block) ?_
      refine Walks.idle rfl (fun _ => stepG_seq) ?_
      refine Walks.idle rfl (fun _ => stepG_region) ?_
      simp only [List.size_toArray, List.length_cons, List.length_nil, Nat.reduceAdd, Nat.zero_add, List.range, List.range.loop]
      refine walks_goes rfl (fun _ hr => ?_)
      replace hF := hF.rely K hr
      clear hr
      refine goes_oper_k rfl rfl (by k_ne) (fun K' hK => ?_)
      go_simp
      refine hK _ _ ⟨_, guar_none (fun e he => by have hm := mem_listed he; simp [go_sem, *] at hm), ?_⟩
      clear hK K'
      refine walks_goes rfl (fun _ hr => ?_)
      replace hF := hF.rely K hr
      clear hr
      refine goes_oper_k rfl rfl (by k_ne) (fun K' hK => ?_)
      go_simp
      refine hK _ _ ⟨_, guar_none (fun e he => by have hm := mem_listed he; simp [go_sem, *] at hm), ?_⟩
      clear hK K'
      refine Walks.idle rfl (fun _ => stepG_region_end) ?_
      refine Walks.idle rfl (fun _ => stepG_region) ?_
      simp only [List.size_toArray, List.length_cons, List.length_nil, Nat.reduceAdd, Nat.zero_add, List.range, List.range.loop]
      refine walks_goes rfl (fun _ hr => ?_)
      replace hF := hF.rely K hr
      clear hr
      refine goes_oper_k rfl rfl (by k_ne) (fun K' hK => ?_)
      go_simp
      refine hK _ _ ⟨_, guar_none (fun e he => by have hm := mem_listed he; simp [go_sem, *] at hm), ?_⟩
      clear hK K'
      refine walks_goes rfl (fun _ hr => ?_)
      replace hF := hF.rely K hr
      clear hr
      refine goes_oper_k rfl rfl (by k_ne) (fun K' hK => ?_)
      go_simp
      refine hK _ _ ⟨_, guar_none (fun e he => by have hm := mem_listed he; simp [go_sem, *] at hm), ?_⟩
      clear hK K'
      refine walks_goes rfl (fun _ hr => ?_)
      replace hF := hF.rely K hr
      clear hr
      refine goes_oper_k rfl rfl (by k_ne) (fun K' hK => ?_)
      go_simp
      refine hK _ _ ⟨_, guar_none (fun e he => by have hm := mem_listed he; simp [go_sem, *] at hm), ?_⟩
      clear hK K'
      refine walks_goes rfl (fun _ hr => ?_)
      replace hF := hF.rely K hr
      clear hr
      refine goes_oper_k rfl rfl (by k_ne) (fun K' hK => ?_)
      go_simp
      refine hK _ _ ⟨_, guar_none (fun e he => by have hm := mem_listed he; simp [go_sem, *] at hm), ?_⟩
      clear hK K'
      -- the answer is called
      refine walks_callv (fv := fv) (Post := fun O' v W' => ∃ X s e, v = .agg #[s, e] ∧ (∀ b, O' b ↔ X b ∨ O b) ∧ (∀ b, X b → ¬ O b) ∧ A i s e X W' ∧ WkFacts Env F.Sh O' W') rfl rfl (by k_ne) rfl rfl (fun W3 hr => ?_) (fun O' v W' q => ?_)
      · obtain ⟨f, cap, e, ⟨g, hg, hn, hb⟩, hcall⟩ := K.call (Stop := KSend F i (KRecv F n')) i hi O W3 (hF.rely K hr)
        rw [hP] at hg hcall
        exact ⟨f, cap, e, ⟨g, hg, hn, hb⟩, by simpa [Act.eval] using hcall⟩
      · obtain ⟨X, s, e, rfl, hO', hX, hA, hF'⟩ := q
        walk_nrm
        refine walks_goes rfl (fun W4 hr => ?_)
        replace hF' := hF'.rely K hr
        have hm := build_made i s e W4
        have hme := build_made_ev i s e W4
        refine goes_oper_k rfl rfl (by k_ne) (fun K' hK => ?_)
        go_simp
        refine hK _ _ ⟨_, guar_none (fun e he => by have hm := mem_listed he; simp [go_sem, *] at hm), ?_⟩
        clear hK K' hm hme
        refine Walks.stop fun W5 hr5 => ?_
        refine KSend.here (v := .agg #[.int .i64 i, s, e]) (z := .tuple #[]) (sh := .send) (X := X) rfl (fun W6 => ?_) ⟨fun b q => (hO' b).2 (.inl q), ?_, fun W6 hr6 => ?_⟩
        · rw [hP]
          refine (stepG_comm (cases := #[scase F.cb (.agg #[.int .i64 i, s, e]) (.tuple #[])]) (blocking := true) (shape := .send) (w' := W6) rfl rfl (by k_ne) (by simp [go_sem, scase])).trans ?_
          simp [listed, go_sem, seen_none]
        · exact K.put i s e X W5 hi (K.arely i s e X W' W5 hA ⟨Nat.le_trans hr.size hr5.size, fun b hb q => (hr5.keep b (Nat.lt_of_lt_of_le hb hr.size) (q.imp (fun z => (hO' b).2 (.inl z)) id)).trans (hr.keep b hb (q.imp (fun z => (hO' b).2 (.inl z)) id)), hr5.tape.trans hr.tape, hr5.os.trans hr.os, hr5.output.trans hr.output⟩)
        · replace hF' := hF'.rely K hr5
          have eO : (fun b => O' b ∧ ¬ X b) = O := funext fun b => propext ⟨fun q => ((hO' b).1 q.1).resolve_left q.2, fun q => ⟨(hO' b).2 (.inr q), fun z => hX b z q⟩⟩
          rw [eO] at hr6 ⊢
          have hF6 : WkFacts Env F.Sh O W6 := ⟨K.rely O W5 W6 hr6.r hF'.env, fun b q => Nat.lt_of_lt_of_le (hF'.lt b (q.imp (fun z => (hO' b).2 (.inr z)) id)) hr6.r.size⟩
          rw [finish_G]
          simp only [commResult_send]
          walk_nrm
          refine GoesJ.bind (S1 := fun O' g W => O' = O ∧ WkFacts Env F.Sh O W ∧ ∃ x, g = wkHead (wkT F.cn F.cb fv x) cs) (fun O' g W q => by obtain ⟨rfl, hF, x, rfl⟩ := q; exact ih n' (Nat.lt_succ_self _) x W hF) (Classical.choose_spec (GoesJ.of (J := F.J) ?_))
          rw [hP]
          refine Walks.idle rfl (fun _ => stepG_region_end) ?_
          refine Walks.idle rfl (fun _ => stepG_inBlock) ?_
          refine Walks.idle rfl (fun _ => stepG_inLoop) ?_
          refine Walks.stop fun W7 hr7 => ⟨rfl, hF6.rely K hr7, #[x.getD 0 undef, x.getD 1 undef, x.getD 2 undef, .int .i64 i, .tuple #[.int .i64 i, .bool true], .bool true, .int .i64 i, .chan (some F.cb), .int .i64 i, fv, .int .i64 i, .agg #[s, e], .agg #[.int .i64 i, s, e]], ?_⟩
          unfold wkHead
          simp [wkC, loopOf, Tryd.f28, wkT]
end worker
end Go.Proofs.YtmbfdhekplnoaaaDoor

namespace Go.Proofs.YtmbfdhekplnoaaaDoor
open Go Go.Conc Go.RowKit Go.ConcR.Gen

noncomputable def hoC : Code := match Tryd.f29.body with
  | some (.seq _ (.seq _ (.seq _ (.seq (.seq _ (.block _ (.loop c))) _)))) => c
  | _ => .skip
noncomputable def hoR : Code := match Tryd.f29.body with
  | some (.seq _ (.seq _ (.seq _ (.seq _ c)))) => c
  | _ => .skip
def hoT (M : Nat) (c1 : Value) (cb lb next taken : Nat) (x : Array Value) : Array Value :=
  #[.int .i64 M, c1, .chan (some cb), x.getD 3 undef, x.getD 4 undef, x.getD 5 undef, .slice none 0 0, .slice (some ⟨lb, 0, none⟩) M M, .int .i64 next, .int .i64 taken, x.getD 10 undef, x.getD 11 undef, x.getD 12 undef, x.getD 13 undef, x.getD 14 undef, x.getD 15 undef, x.getD 16 undef, x.getD 17 undef, x.getD 18 undef, x.getD 19 undef, x.getD 20 undef, x.getD 21 undef, x.getD 22 undef, x.getD 23 undef, x.getD 24 undef, x.getD 25 undef, x.getD 26 undef, x.getD 27 undef, x.getD 28 undef, x.getD 29 undef, x.getD 30 undef, x.getD 31 undef, x.getD 32 undef, x.getD 33 undef, x.getD 34 undef, x.getD 35 undef, x.getD 36 undef, x.getD 37 undef]
noncomputable def hoHead (T : Array Value) (cs : List Frame) : Goroutine := G ((base 29).at ⟨T, []⟩ [.code hoC, .inLoop hoC, .inBlock 0, .code hoR]) cs
structure HoFacts (F : Farm) (Env : World → Prop) (A : Nat → Value → Value → (Nat → Prop) → World → Prop) (lb : Nat) (ds : List Nat) (O : Nat → Prop) (W : World) : Prop where
  env : Env W
  lt : ∀ b, O b ∨ F.Sh b → b < W.heap.size
  free : ∀ b, O b → b ≠ F.cn ∧ b ≠ F.ga.block
  old : F.cn < W.heap.size ∧ F.ga.block < W.heap.size
  own : O lb
  nsh : ¬ F.Sh lb
  bare : ∃ d t, W.heap[lb]? = some (.cells d t (0, 0))
  row : ∀ j, j < 2 * F.M → (∃ v, W.cell? ⟨lb, j, none⟩ = some v) ∧ W.frozen? ⟨lb, j, none⟩ = false
  got : ∀ i ∈ ds, ∃ s e X, W.cell? ⟨lb, i * 2, none⟩ = some s ∧ W.cell? ⟨lb, i * 2 + 1, none⟩ = some e ∧ A i s e X W ∧ ∀ b, X b → O b ∧ b ≠ lb
theorem bare_set {W : World} {b : Nat} (h : ∃ d t, W.heap[b]? = some (.cells d t (0, 0))) (j : Nat) (v : Value) : ∃ d t, (W.setCell ⟨b, j, none⟩ v).heap[b]? = some (.cells d t (0, 0)) := by
  obtain ⟨d, t, z⟩ := h
  exact ⟨d.setIfInBounds j v, t, by simp [World.setCell, Array.getElem?_modify, z]⟩
section ho
variable {F : Farm} {A : Nat → Value → Value → (Nat → Prop) → World → Prop} {Env : World → Prop} {fv : Value} {lb : Nat} {ds : List Nat} {O : Nat → Prop}
theorem HoFacts.rely (K : WkAsk F Env fv A) {W W1 : World} (h : HoFacts F Env A lb ds O W) (r : Rely O F.Sh W W1) : HoFacts F Env A lb ds O W1 := by
  have lt : lb < W.heap.size := h.lt lb (.inl h.own)
  have eb : W1.heap[lb]? = W.heap[lb]? := r.keep lb lt (.inl h.own)
  have ec : ∀ j, W1.cell? ⟨lb, j, none⟩ = W.cell? ⟨lb, j, none⟩ := fun j => by unfold World.cell?; rw [show (⟨lb, j, none⟩ : Addr).block = lb from rfl, eb]
  have ef : ∀ j, W1.frozen? ⟨lb, j, none⟩ = W.frozen? ⟨lb, j, none⟩ := fun j => by unfold World.frozen?; rw [show (⟨lb, j, none⟩ : Addr).block = lb from rfl, eb]
  refine ⟨K.rely O W W1 r h.env, fun b q => Nat.lt_of_lt_of_le (h.lt b q) r.size, h.free, ⟨Nat.lt_of_lt_of_le h.old.1 r.size, Nat.lt_of_lt_of_le h.old.2 r.size⟩, h.own, h.nsh, let ⟨d, t, z⟩ := h.bare; ⟨d, t, eb.trans z⟩, fun j hj => ?_, fun i hi => ?_⟩
  · rw [ec, ef]; exact h.row j hj
  · obtain ⟨s, e, X, c1, c2, ha, hx⟩ := h.got i hi
    exact ⟨s, e, X, (ec _).trans c1, (ec _).trans c2, K.arely i s e X W W1 ha ⟨r.size, fun b hb q => r.keep b hb (q.imp (fun z => (hx b z).1) id), r.tape, r.os, r.output⟩, hx⟩
noncomputable def hoSelOps : Array Oper := match hoC with
  | .seq _ (.block _ (.seq _ (.seq _ (.seq (.region _ ops _) _)))) => ops
  | _ => #[]
noncomputable def hoSelC : Code := match hoC with
  | .seq _ (.block _ (.seq _ (.seq _ (.seq _ c)))) => c
  | _ => .skip
noncomputable def hoSel (T : Array Value) (cs : List Frame) : Goroutine := G ((base 29).at ⟨T, []⟩ [.inRegion hoSelOps [1, 2, 3], .code hoSelC, .inBlock 1, .inLoop hoC, .inBlock 0, .code hoR]) cs
set_option maxRecDepth 100000 in
set_option maxHeartbeats 1000000 in
theorem ho_sent (K : WkAsk F Env fv A) (hP : F.P = Tryd.prog) {cs : List Frame} {M next taken : Nat} {c1 z : Value} {x : Array Value} {W : World} (hM : next < 9223372036854775807) (hF : HoFacts F Env A lb ds O W) (h22 : x[22]?.getD undef = .tuple #[.int .i64 0, .bool false, z]) {S : Stp}
    (h : ∀ x W, HoFacts F Env A lb ds O W → GoesJ F.P true F.J F.Sh S O (hoHead (hoT M c1 F.cb lb (next + 1) taken x) cs) W) : GoesJ F.P true F.J F.Sh S O (hoSel (hoT M c1 F.cb lb next taken x) cs) W := by
  refine GoesJ.bindJ (S1 := fun O' g W => O' = O ∧ HoFacts F Env A lb ds O W ∧ ∃ x, g = hoHead (hoT M c1 F.cb lb (next + 1) taken x) cs) (fun O' g W _ q => by obtain ⟨rfl, hF, x, rfl⟩ := q; exact h x W hF) (GoesJ.of (J := F.J) ?_)
  have hw : IntKind.i64.wrap ((next : Int) + 1) = ((next + 1 : Nat) : Int) := by rw [IntKind.wrap_i64]; omega
  rw [hP]
  unfold hoSel hoT
  simp only [hoSelOps, hoSelC, hoC, hoR, Tryd.f29, Array.getD_eq_getD_getElem?]
  rw [h22]
  refine walks_goes rfl (fun _ hr => ?_)
  replace hF := hF.rely K hr
  clear hr
  refine goes_oper_k rfl rfl (by k_ne) (fun K' hK => ?_)
  go_simp
  refine hK _ _ ⟨_, guar_none (fun e he => by have hm := mem_listed he; simp [go_sem, *] at hm), ?_⟩
  clear hK K'
  refine walks_goes rfl (fun _ hr => ?_)
  replace hF := hF.rely K hr
  clear hr
  refine goes_oper_k rfl rfl (by k_ne) (fun K' hK => ?_)
  go_simp
  refine hK _ _ ⟨_, guar_none (fun e he => by have hm := mem_listed he; simp [go_sem, *] at hm), ?_⟩
  clear hK K'
  refine walks_goes rfl (fun _ hr => ?_)
  replace hF := hF.rely K hr
  clear hr
  refine goes_oper_k rfl rfl (by k_ne) (fun K' hK => ?_)
  go_simp
  refine hK _ _ ⟨_, guar_none (fun e he => by have hm := mem_listed he; simp [go_sem, *] at hm), ?_⟩
  clear hK K'
  refine Walks.idle rfl (fun _ => stepG_region_end) ?_
  refine Walks.idle rfl (fun _ => stepG_block) ?_
  refine Walks.idle rfl (fun _ => stepG_cond (t := true) rfl) ?_
  simp only [if_true]
  refine Walks.idle rfl (fun _ => stepG_region) ?_
  simp only [List.size_toArray, List.length_cons, List.length_nil, Nat.reduceAdd, Nat.zero_add, List.range, List.range.loop]
  refine walks_goes rfl (fun _ hr => ?_)
  replace hF := hF.rely K hr
  clear hr
  refine goes_oper_k rfl rfl (by k_ne) (fun K' hK => ?_)
  go_simp
  refine hK _ _ ⟨_, guar_none (fun e he => by have hm := mem_listed he; simp [go_sem, *] at hm), ?_⟩
  clear hK K'
  refine walks_goes rfl (fun _ hr => ?_)
  replace hF := hF.rely K hr
  clear hr
  refine goes_oper_k rfl rfl (by k_ne) (fun K' hK => ?_)
  go_simp
  refine hK _ _ ⟨_, guar_none (fun e he => by have hm := mem_listed he; simp [go_sem, *] at hm), ?_⟩
  clear hK K'
  refine walks_goes rfl (fun _ hr => ?_)
  replace hF := hF.rely K hr
  clear hr
  refine goes_oper_k rfl rfl (by k_ne) (fun K' hK => ?_)
  go_simp
  refine hK _ _ ⟨_, guar_none (fun e he => by have hm := mem_listed he; simp [go_sem, *] at hm), ?_⟩
  clear hK K'
  refine Walks.idle rfl (fun _ => stepG_region_end) ?_
  refine Walks.idle rfl (fun _ => stepG_inBlock) ?_
  refine Walks.idle rfl (fun _ => stepG_inBlock) ?_
  refine Walks.idle rfl (fun _ => stepG_inLoop) ?_
  refine Walks.stop fun _ hr => ⟨rfl, hF.rely K hr, #[.int .i64 M, c1, .chan (some F.cb), x.getD 3 undef, x.getD 4 undef, x.getD 5 undef, .slice none 0 0, .slice (some ⟨lb, 0, none⟩) M M, .int .i64 (next + 1), .int .i64 taken, x.getD 10 undef, x.getD 11 undef, x.getD 12 undef, x.getD 13 undef, x.getD 14 undef, x.getD 15 undef, x.getD 16 undef, x.getD 17 undef, x.getD 18 undef, x.getD 19 undef, x.getD 20 undef, x.getD 21 undef, .tuple #[.int .i64 0, .bool false, z], .int .i64 0, .bool true, .bool false, .int .i64 next, .int .i64 (next + 1), x.getD 28 undef, x.getD 29 undef, x.getD 30 undef, x.getD 31 undef, x.getD 32 undef, x.getD 33 undef, x.getD 34 undef, x.getD 35 undef, x.getD 36 undef, x.getD 37 undef], ?_⟩
  simp [hoHead, hoC, hoR, Tryd.f29]
end ho
end Go.Proofs.YtmbfdhekplnoaaaDoor
