/-
  The law RightBakers, whatever comes in.
-/
import Derived.Test.YtlhffdmhbplpjabDoorRightBakersWalk
import Derived.Test.YtlhffdmhbplpjabDoorIntsIn
import Derived.Test.YtlhffdmhbplpjabDoorIntsOwn
namespace Go.Proofs.YtlhffdmhbplpjabDoor
open Go.RowKit

theorem Laid.drawR {w : World} {A : Nat → Addr} (h : Laid w A) : DrawLaid w A := ⟨h.v1, h.v2, h.v3⟩
theorem WCase.slice {w : World} {v : Value} {z p : Int} (h : WCase w v z p) : ∃ a n cap, v = .slice a n cap := by
  cases h with
  | shape a n cap h hm e => exact ⟨_, _, _, e⟩
  | bad b off n cap k0 W hI hb n1 n64 hk0 hG hbad e => exact ⟨_, _, _, e⟩
  | none b off n cap W hI hb hW h0 e => exact ⟨_, _, _, e⟩
theorem WCase.wf {w : World} {v : Value} {z p : Int} (h : WCase w v z p) : Calls Tryd.prog 98 #[v] w fun e w2 => e = .returned (.agg #[.int .i64 z, .int .i64 p]) ∧ Below w.heap.size w w2 := by
  cases h with
  | shape a n cap h hm e => subst e; exact wf_shape a n cap w h hm
  | bad b off n cap k0 W hI hb n1 n64 hk0 hG hbad e => subst e; exact wf_bad b off n cap k0 W w hI n1 n64 hk0 hG hbad
  | none b off n cap W hI hb hW h0 e => subst e; exact wf_fine b off n cap W w hI hW 4 (.inl ⟨rfl, h0⟩)
theorem weights_first2 (n : Nat) (W : Nat → Int) : (∃ k, k < n ∧ (∀ i, i < k → WOk (W i)) ∧ ¬ WOk (W k)) ∨ (∀ i, i < n → WOk (W i)) := by
  induction n with
  | zero => exact .inr (fun i hi => by omega)
  | succ n ih =>
    rcases ih with ⟨k, hk, h1, h2⟩ | h
    · exact .inl ⟨k, by omega, h1, h2⟩
    · by_cases e : WOk (W n)
      · exact .inr (fun i hi => by
          by_cases g : i < n
          · exact h i g
          · obtain rfl : i = n := by omega
            exact e)
      · exact .inl ⟨n, by omega, h, e⟩
/-- weights that came in: something is wrong, in a copy too, or nothing -/
theorem weights_case (a : Option Addr) (len cap : Nat) (h100 : len ≤ 100) (w : World) (sl : IsInts w a len cap) :
    (∃ z p, WCase w (.slice a len cap) z p ∧ ∀ w1, Below w.heap.size w w1 → Calls Tryd.prog 47 #[.slice a len cap] w1 fun e w2 => ∃ v', e = .returned v' ∧ WCase w2 v' z p ∧ Below w1.heap.size w1 w2) ∨
    ∃ b off W, a = some ⟨b, off, none⟩ ∧ b < w.heap.size ∧ Ints w b off len W ∧ Weights len W ∧ sumTo W len ≠ 0 ∧ ∀ w1, Below w.heap.size w w1 → Calls Tryd.prog 47 #[.slice a len cap] w1 fun e w2 => ∃ v', e = .returned v' ∧ (∃ m c', v' = .slice (some ⟨m, 0, none⟩) len c' ∧ m < w2.heap.size ∧ Ints w2 m 0 len W) ∧ Below w1.heap.size w1 w2 := by
  rcases Nat.eq_zero_or_pos len with rfl | h0
  · refine .inl ⟨3, -1, .shape a 0 cap (.inl rfl) (by omega) rfl, fun w1 hB => (ownInts_none a cap w1).mono ?_⟩
    rintro e w2 ⟨rfl, rfl⟩
    exact ⟨_, rfl, .shape none 0 0 (.inl rfl) (by omega) rfl, Below.refl _ _⟩
  · rcases sl with rfl | ⟨b, off, W, rfl, hb, hcap, hm, hI, _⟩
    · omega
    have own : ∀ w1, Below w.heap.size w w1 → Calls Tryd.prog 47 #[.slice (some ⟨b, off, none⟩) len cap] w1 fun e w2 => ∃ m cap', e = .returned (.slice (some ⟨m, 0, none⟩) len cap') ∧ m < w2.heap.size ∧ Ints w2 m 0 len W ∧ Below w1.heap.size w1 w2 := fun w1 hB => ownInts_some b off len cap W w1 (hI.below hB hb) h0 (by omega)
    by_cases h64 : len ≤ 64
    · rcases weights_first2 len W with ⟨k, hk, h1, h2⟩ | hall
      · refine .inl ⟨2, k, .bad b off len cap k W hI hb h0 h64 hk h1 h2 rfl, fun w1 hB => (own w1 hB).mono ?_⟩
        rintro e w2 ⟨m, c', rfl, hm2, hI2, hB2⟩
        exact ⟨_, rfl, .bad m 0 len c' k W hI2 hm2 h0 h64 hk h1 h2 rfl, hB2⟩
      · by_cases hs : sumTo W len = 0
        · refine .inl ⟨4, -1, .none b off len cap W hI hb ⟨h0, h64, hall⟩ hs rfl, fun w1 hB => (own w1 hB).mono ?_⟩
          rintro e w2 ⟨m, c', rfl, hm2, hI2, hB2⟩
          exact ⟨_, rfl, .none m 0 len c' W hI2 hm2 ⟨h0, h64, hall⟩ hs rfl, hB2⟩
        · refine .inr ⟨b, off, W, rfl, hb, hI, ⟨h0, h64, hall⟩, hs, fun w1 hB => (own w1 hB).mono ?_⟩
          rintro e w2 ⟨m, c', rfl, hm2, hI2, hB2⟩
          exact ⟨_, rfl, ⟨m, c', rfl, hm2, hI2⟩, hB2⟩
    · refine .inl ⟨3, -1, .shape _ len cap (.inr (by omega)) (by omega) rfl, fun w1 hB => (own w1 hB).mono ?_⟩
      rintro e w2 ⟨m, c', rfl, hm2, hI2, hB2⟩
      exact ⟨_, rfl, .shape _ len c' (.inr (by omega)) (by omega) rfl, hB2⟩
set_option maxRecDepth 100000 in
theorem bakers_more (a : Option Addr) (len cap seed : Nat) (c l r : Int) (h : 100 < len) (hm : len ≤ 9223372036854775807) (w : World) :
    Calls Tryd.prog 7 #[.slice a len cap, .int .u64 seed, .int .i64 c, .int .i64 l, .int .i64 r] w fun e w' => e = .returned (.bool true) ∧ Below w.heap.size w w' := by
  go_enter Tryd.func7, Tryd.ntmps7
  go_wp2_with fail
  refine (entitled_of w).mono ?_
  rintro e w1 ⟨rfl, B1⟩
  go_wp2
  go_ret
  exact ⟨rfl, B1⟩
theorem turnOk_low {c l r : Int} (h : TurnOk c l r) {i : Int} (i0 : 0 ≤ i) (i8 : i < 8) : TurnOk c l i := ⟨h.1, h.2.1, i0, i8⟩

/-- the first half: one round -/
def Half (a : Option Addr) (len cap seed : Nat) (c l r : Int) (w : World) (G : World → Value → Prop) : Prop := ∃ (z p : Int) (T : Int → Prop), (∀ k k', T k → T k' → k = k') ∧
  (∀ w1 v', Below w.heap.size w w1 → G w1 v' → Calls Tryd.prog 46 #[v', .int .u64 seed, .int .i64 c, .int .i64 l, .int .i64 r] w1 fun e w2 => ∃ k ev, e = .returned (.tuple #[.int .i64 k, ev]) ∧ T k ∧ Tells w2 ev z p ∧ Below w1.heap.size w1 w2) ∧
  (∀ w1, Below w.heap.size w w1 → Calls Tryd.prog 48 #[.slice a len cap, .int .u64 seed, .int .i64 c, .int .i64 l, .int .i64 r] w1 fun e w2 => ∃ k, e = .returned (.tuple #[.int .i64 k, .agg #[.int .i64 z, .int .i64 p]]) ∧ T k ∧ Below w1.heap.size w1 w2)
theorem half_bad (a : Option Addr) (len cap seed : Nat) (c l r : Int) (A : Nat → Addr) (w : World) (hL : Laid w A) (G : World → Value → Prop) (hG : ∀ w1 v', G w1 v' → ∃ a n c, v' = .slice a n c) (h : ¬ TurnOk c l r) : Half a len cap seed c l r w G := by
  refine ⟨2, -1, fun k => k = 0, fun k k' e e' => e.trans e'.symm, fun w1 v' hB g => ?_, fun w1 hB => ?_⟩
  · obtain ⟨a', n', c', rfl⟩ := hG w1 v' g
    refine (rb_bad a' n' c' seed c l r h A w1 (hL.below hB).drawR).mono ?_
    rintro e w2 ⟨rfl, B2⟩
    exact ⟨0, _, rfl, rfl, tells_sent ((hL.below hB).below B2) 1 (by omega), B2⟩
  · refine (ref_baker_bad a len cap seed c l r h w1).mono ?_
    rintro e w2 ⟨rfl, B2⟩
    exact ⟨0, rfl, rfl, B2⟩
theorem half_err (a : Option Addr) (len cap seed : Nat) (hs : seed < W64) (c l r : Int) (A : Nat → Addr) (w : World) (hL : Laid w A) (z p : Int) (hC : WCase w (.slice a len cap) z p) (h : TurnOk c l r) : Half a len cap seed c l r w (fun w1 v' => WCase w1 v' z p) := by
  refine ⟨z, p, fun k => k = 0, fun k k' e e' => e.trans e'.symm, fun w1 v' hB g => ?_, fun w1 hB => ?_⟩
  · refine (rb_err v' seed hs c l r z p h A w1 (hL.below hB).drawR g).mono ?_
    rintro e w2 ⟨u, y, rfl, hE, B2⟩
    exact ⟨0, _, rfl, rfl, hE.tells ((hL.below hB).below B2), B2⟩
  · refine (ref_baker_fault _ seed c l r z p h hC.pos w1 (fun w2 hB2 => (hC.below (hB.trans (hB2.mono hB.size))).wf)).mono ?_
    rintro e w2 ⟨rfl, B2⟩
    exact ⟨0, rfl, rfl, B2⟩
theorem half_fine (b off len cap seed : Nat) (hs : seed < W64) (W : Nat → Int) (c l r : Int) (w : World) (hI : Ints w b off len W) (hb : b < w.heap.size) (hW : Weights len W) (h0 : sumTo W len ≠ 0) (h : TurnOk c l r) :
    Half (some ⟨b, off, none⟩) len cap seed c l r w (fun w1 v' => ∃ m c', v' = .slice (some ⟨m, 0, none⟩) len c' ∧ m < w1.heap.size ∧ Ints w1 m 0 len W) := by
  refine ⟨0, -1, Turn len W seed c l r, fun k k' e e' => e.one e', fun w1 v' hB g => ?_, fun w1 hB => ?_⟩
  · obtain ⟨m, c', rfl, hm, hI'⟩ := g
    refine (rb_fine m 0 len c' seed W c l r h hs w1 hI' hm hW h0).mono ?_
    rintro e w2 ⟨k, rfl, hT, B2⟩
    exact ⟨k, _, rfl, hT, tells_nil w2, B2⟩
  · exact ref_baker_fine b off len cap seed W c l r h hs w1 (hI.below hB hb) (Nat.lt_of_lt_of_le hb hB.size) hW h0

theorem rightBakers_any (a : Option Addr) (len cap seed : Nat) (hs : seed < W64) (c l r : Int) (A : Nat → Addr) (w : World) (hL : Laid w A) (sl : IsInts w a len cap) :
    Calls Tryd.prog 7 #[.slice a len cap, .int .u64 seed, .int .i64 c, .int .i64 l, .int .i64 r] w fun e w' => e = .returned (.bool true) ∧ Below w.heap.size w w' := by
  by_cases h100 : len ≤ 100
  · rcases weights_case a len cap h100 w sl with ⟨z, p, hC, own⟩ | ⟨b, off, W, rfl, hb, hI, hW, h0, own⟩
    · have H : Half a len cap seed c l r w (fun w1 v' => WCase w1 v' z p) := by
        by_cases h : TurnOk c l r
        · exact half_err a len cap seed hs c l r A w hL z p hC h
        · exact half_bad a len cap seed c l r A w hL _ (fun w1 v' g => g.slice) h
      obtain ⟨z1, p1, T, hT, P1, R1⟩ := H
      by_cases h : TurnOk c l 0
      · refine bakers_err A a len cap h100 seed c l r w hL _ z1 p1 T hT own P1 R1 z p hC.pos (fun w1 v' hB g => ?_) (fun w1 hB => ?_)
        · refine (rr_err v' seed hs c l z p h A w1 (hL.below hB).drawR g).mono ?_
          rintro e w2 ⟨a', c', u, y, rfl, hE, B2⟩
          exact ⟨a', c', _, rfl, hE, B2⟩
        · refine (ref_baker_fault _ seed c l 0 z p h hC.pos w1 (fun w2 hB2 => (hC.below (hB.trans (hB2.mono hB.size))).wf)).mono ?_
          rintro e w2 ⟨rfl, B2⟩
          exact ⟨0, rfl, B2⟩
      · refine bakers_err A a len cap h100 seed c l r w hL _ z1 p1 T hT own P1 R1 2 (-1) (by omega) (fun w1 v' hB g => ?_) (fun w1 hB => ?_)
        · obtain ⟨a', n', c', rfl⟩ := g.slice
          refine (rr_bad a' n' c' seed c l h A w1 (hL.below hB).drawR).mono ?_
          rintro e w2 ⟨a2, c2, rfl, B2⟩
          exact ⟨a2, c2, _, rfl, .inl ⟨1, by omega, rfl, rfl, rfl⟩, B2⟩
        · refine (ref_baker_bad a len cap seed c l 0 h w1).mono ?_
          rintro e w2 ⟨rfl, B2⟩
          exact ⟨0, rfl, B2⟩
    · have H : Half (some ⟨b, off, none⟩) len cap seed c l r w (fun w1 v' => ∃ m c', v' = .slice (some ⟨m, 0, none⟩) len c' ∧ m < w1.heap.size ∧ Ints w1 m 0 len W) := by
        by_cases h : TurnOk c l r
        · exact half_fine b off len cap seed hs W c l r w hI hb hW h0 h
        · exact half_bad _ len cap seed c l r A w hL _ (fun w1 v' ⟨m, c', e, _⟩ => ⟨_, _, _, e⟩) h
      obtain ⟨z1, p1, T, hT, P1, R1⟩ := H
      by_cases h : TurnOk c l 0
      · refine bakers_fine b off len cap h100 W seed c l r w hI hb _ z1 p1 T hT own P1 R1 (fun i k => Turn len W seed c l i k) (fun i k k' e e' => e.one e') (fun i k g => g.heavy hW h0) (fun w1 v' hB g => ?_) (fun i w1 hi hB => ?_)
        · obtain ⟨m, c', rfl, hm, hI'⟩ := g
          exact rr_fine m 0 len c' seed W c l h hs w1 hI' hm hW h0
        · exact ref_baker_fine b off len cap seed W c l i (turnOk_low h (by omega) (by omega)) hs w1 (hI.below hB hb) (Nat.lt_of_lt_of_le hb hB.size) hW h0
      · refine bakers_err A _ len cap h100 seed c l r w hL _ z1 p1 T hT own P1 R1 2 (-1) (by omega) (fun w1 v' hB g => ?_) (fun w1 hB => ?_)
        · obtain ⟨m, c', rfl, hm, hI'⟩ := g
          refine (rr_bad _ len c' seed c l h A w1 (hL.below hB).drawR).mono ?_
          rintro e w2 ⟨a2, c2, rfl, B2⟩
          exact ⟨a2, c2, _, rfl, .inl ⟨1, by omega, rfl, rfl, rfl⟩, B2⟩
        · refine (ref_baker_bad _ len cap seed c l 0 h w1).mono ?_
          rintro e w2 ⟨rfl, B2⟩
          exact ⟨0, rfl, B2⟩
  · rcases sl with rfl | ⟨b, off, W, rfl, hb, hcap, hm, hI, _⟩
    · omega
    · exact bakers_more _ len cap seed c l r (by omega) (by omega) w
end Go.Proofs.YtlhffdmhbplpjabDoor
