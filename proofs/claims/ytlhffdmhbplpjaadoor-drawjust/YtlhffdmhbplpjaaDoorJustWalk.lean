/-
  The law DrawJust, walked.
-/
import Derived.Test.YtlhffdmhbplpjaaDoorProgNew
import Derived.Deep.RegionWith
namespace Go.Proofs.YtlhffdmhbplpjaaDoor
open Go.RowKit Go.Deep

theorem wrap_in (x : Int) (h0 : -9223372036854775808 ≤ x) (h1 : x ≤ 9223372036854775807) : IntKind.i64.wrap x = x := by rw [IntKind.wrap_i64]; omega
/-! places counted -/
def cntTo (H : Int) (d : DS) (k j : Nat) : Int := sumTo (fun i => (if i = j then d.line i else 0) + (if d.other i = j then H - d.line i else 0)) k
theorem sumTo_add (f g : Nat → Int) : ∀ n, sumTo (fun i => f i + g i) n = sumTo f n + sumTo g n
  | 0 => rfl
  | n + 1 => by
    show sumTo (fun i => f i + g i) n + (f n + g n) = sumTo f n + f n + (sumTo g n + g n)
    rw [sumTo_add f g n]; omega
theorem sumTo_one (f : Nat → Int) (j : Nat) : ∀ n, sumTo (fun i => if i = j then f i else 0) n = if j < n then f j else 0
  | 0 => rfl
  | n + 1 => by
    show sumTo (fun i => if i = j then f i else 0) n + (if n = j then f n else 0) = _
    rw [sumTo_one f j n]
    by_cases e : n = j
    · subst e; rw [if_neg (by omega), if_pos rfl, if_pos (by omega)]; omega
    · rw [if_neg e]
      by_cases g : j < n
      · rw [if_pos g, if_pos (by omega)]; omega
      · rw [if_neg g, if_neg (by omega)]; rfl
theorem cnt_all (H : Int) (d : DS) (n j : Nat) (hj : j < n) : cntTo H d n j = d.line j + inflow H d.line d.other n j := by
  unfold cntTo inflow
  rw [sumTo_add, sumTo_one, if_pos hj]
theorem cnt_bd {H : Int} {d : DS} {n : Nat} (hH : H ≤ 68719476736) (hl : ∀ k, k < n → 0 ≤ d.line k ∧ d.line k ≤ H) (j : Nat) : ∀ k : Nat, k ≤ n → 0 ≤ cntTo H d k j ∧ cntTo H d k j ≤ 137438953472 * k
  | 0, _ => ⟨Int.le_refl _, Int.le_refl _⟩
  | k + 1, hk => by
    have ih := cnt_bd hH hl j k (by omega)
    have hlk := hl k (by omega)
    show 0 ≤ cntTo H d k j + ((if k = j then d.line k else 0) + (if d.other k = j then H - d.line k else 0)) ∧ cntTo H d k j + ((if k = j then d.line k else 0) + (if d.other k = j then H - d.line k else 0)) ≤ _
    split <;> split <;> omega
theorem cnt_next (H : Int) (d : DS) (k j : Nat) : upd (upd (cntTo H d k) k (cntTo H d k k + d.line k)) (d.other k) (upd (cntTo H d k) k (cntTo H d k k + d.line k) (d.other k) + H - d.line k) j = cntTo H d (k + 1) j := by
  show _ = cntTo H d k j + ((if k = j then d.line k else 0) + (if d.other k = j then H - d.line k else 0))
  unfold upd
  by_cases e1 : j = d.other k
  · subst e1
    rw [if_pos rfl]
    by_cases e2 : d.other k = k
    · have e3 : k = d.other k := e2.symm
      rw [if_pos e2, if_pos e3, if_pos rfl, e2]; omega
    · have e3 : ¬ k = d.other k := fun h => e2 h.symm
      rw [if_neg e2, if_neg e3, if_pos rfl]; omega
  · have e1' : ¬ d.other k = j := fun h => e1 h.symm
    rw [if_neg e1, if_neg e1']
    by_cases e2 : j = k
    · have e3 : k = j := e2.symm
      rw [if_pos e2, if_pos e3, e2]; omega
    · have e3 : ¬ k = j := fun h => e2 h.symm
      rw [if_neg e2, if_neg e3]; omega

/-! the ways out ahead of the count -/
theorem just_more (a : Option Addr) (len cap : Nat) (w : World) (h : 64 < len) (hm : len ≤ 9223372036854775807) :
    Calls Tryd.prog 12 #[.slice a len cap] w fun e w' => e = .returned (.bool true) ∧ Below w.heap.size w w' := by
  go_enter Tryd.func12, Tryd.ntmps12
  go_wp2_with (go_at_call 49; refine (drawn_of _).mono ?_; rintro e w1 ⟨rfl, hB1⟩)
  go_ret
  exact ⟨rfl, hB1⟩
set_option maxRecDepth 100000 in
theorem just_err (a : Option Addr) (len cap : Nat) (w : World) (h : len ≤ 64)
    (O : ∀ w', Below w.heap.size w w' → Calls Tryd.prog 51 #[.slice a len cap] w' fun e w'' => ∃ v, e = .returned v ∧ Below w.heap.size w w'' ∧
      Calls Tryd.prog 50 #[v] w'' fun e w3 => ∃ u y, e = .returned (.tuple #[.pointer none, .iface u y]) ∧ Below w.heap.size w w3) :
    Calls Tryd.prog 12 #[.slice a len cap] w fun e w' => e = .returned (.bool true) ∧ Below w.heap.size w w' := by
  go_enter Tryd.func12, Tryd.ntmps12
  go_wp2_with (first | (go_at_call 49; refine (drawn_of _).mono ?_; rintro e w1 ⟨rfl, hB1⟩) | (go_at_call 51; refine (O _ hB1).mono ?_; rintro e w2 ⟨v, rfl, hB2, N⟩) | (go_at_call 50; refine N.mono ?_; rintro e w3 ⟨u, y, rfl, hB3⟩))
  go_ret
  exact ⟨rfl, hB3⟩

/-! the count -/
/-- so many columns are counted; all else is as it was -/
def JAt (w3 : World) (n : Nat) (H : Int) (d : DS) (k : Nat) (x : World) : Prop := x.rowIs w3.heap.size 3 n (fun j => .int .i64 (cntTo H d k j)) ∧ Below w3.heap.size w3 x
theorem JAt.below {w3 x y : World} {n : Nat} {H : Int} {d : DS} {k : Nat} (h : JAt w3 n H d k x) (hB : Below x.heap.size x y) : JAt w3 n H d k y := ⟨h.1.of_block (hB.block _ h.1.lt), h.2.trans (hB.mono h.2.size)⟩
theorem JAt.drewN {w3 x : World} {n : Nat} {H : Int} {d : DS} {k : Nat} (h : JAt w3 n H d k x) (m : Nat) : JAt w3 n H d k (x.drewN m) := h.below (below_drewN (Below.refl _ _) m)
set_option maxRecDepth 100000 in
set_option maxHeartbeats 4000000 in
theorem just_fine (b off n cap : Nat) (W : Nat → Int) (w : World) (hI : Ints w b off n W) (hb : b < w.heap.size) (hW : Weights n W) (h0 : sumTo W n ≠ 0) :
    Calls Tryd.prog 12 #[.slice (some ⟨b, off, none⟩) n cap] w fun e w' => e = .returned (.bool true) ∧ Below w.heap.size w w' := by
  have n1 := hW.n1
  have n64 := hW.n64
  go_enter Tryd.func12, Tryd.ntmps12
  go_wp2_with fail
  refine (drawn_of w).mono ?_
  rintro e w1 ⟨rfl, hB1⟩
  have hI1 := hI.below hB1 hb
  go_wp2_with fail
  refine (ownInts_some b off n cap W w1 hI1 (by omega) (by omega)).mono ?_
  rintro e w2 ⟨m, cap', rfl, hm, hI2, hB2⟩
  have hB2' := hB1.trans (hB2.mono hB1.size)
  go_wp2_with fail
  refine (new_fine m 0 n cap' W w2 hI2 hm hW h0).mono ?_
  rintro e w3 ⟨p, c, rfl, hp, D, hB3⟩
  have hB3' := hB2'.trans (hB3.mono hB2'.size)
  have hI3 := hI.below hB3' hb
  have hb3 : b < w3.heap.size := Nat.lt_of_lt_of_le hb hB3'.size
  clear hI hI1 hI2 hB1 hB2 hB2' hB3 hp hm
  have hin := dend_inv n W (fun k hk => (hW.bd k hk).1)
  have hj := dend_just n W (fun k hk => (hW.bd k hk).1)
  have hS := hW.sum
  have hlb : ∀ k, k < n → 0 ≤ (dend n W).line k ∧ (dend n W).line k ≤ sumTo W n ∧ (dend n W).other k < n := fun k hk => hin.line_bd hS.1 k hk
  have ht : ∀ k, k < n → 0 ≤ W k * n ∧ W k * n ≤ 68719476736 := fun k hk => hW.times k hk
  have hc : ∀ k, k < n → cntTo (sumTo W n) (dend n W) n k = W k * n := fun k hk => by rw [cnt_all _ _ _ _ hk]; exact hj k hk
  clear hin hj hW h0
  generalize sumTo W n = H at *
  generalize dend n W = d at *
  have hcb := fun j k hk => cnt_bd (d := d) (H := H) (n := n) hS.2 (fun k hk => ⟨(hlb k hk).1, (hlb k hk).2.1⟩) j k hk
  have m1 := make_ints n (by omega)
  have R0 := (World.rowIs_alloc w3 (noughts n) 3 (fun _ => .int .i64 0) (fun i hi => noughts_at n i (by rw [noughts_size] at hi; exact hi)))
  rw [noughts_size] at R0
  go_wp2_with fail
  go_loopw [2, 7] (fun r i wr => ∃ k : Nat, k ≤ n ∧ r = .bool false ∧ i = .int .i64 k ∧ JAt w3 n H d k wr) (fun _ i _ => n - (intOf i).toNat)
  case atStart => exact ⟨0, Nat.zero_le _, rfl, rfl, R0, (Below.refl _ _).alloc (Nat.le_refl _) _⟩
  case round =>
    clear R0
    obtain ⟨k, hk, rfl, rfl, R, hB⟩ := hrel
    by_cases hlt : k < n
    · have C := draw_column_yes p c n k H d wr (D.below hB) hlt
      obtain ⟨l0, l1, o1⟩ := hlb k hlt
      have hsz := hB.size
      have k1 := hcb k k hk
      have k2 := hcb (d.other k) k hk
      have hB6 : ∀ x, Below w3.heap.size w3 x → x.rowIs w3.heap.size 3 n (fun j => .int .i64 (cntTo H d k j)) → DrawAt (x.setCell ⟨w3.heap.size, k, none⟩ (.int .i64 (cntTo H d k k + d.line k))) p c n H d ∧ Below w3.heap.size w3 (x.setCell ⟨w3.heap.size, k, none⟩ (.int .i64 (cntTo H d k k + d.line k))) ∧
          (x.setCell ⟨w3.heap.size, k, none⟩ (.int .i64 (cntTo H d k k + d.line k))).rowIs w3.heap.size 3 n (fun j => .int .i64 (upd (cntTo H d k) k (cntTo H d k k + d.line k) j)) := fun x hx hr => by
        have hb6 := hx.setCell (p := ⟨w3.heap.size, k, none⟩) (Nat.le_refl _) (.int .i64 (cntTo H d k k + d.line k))
        refine ⟨D.below hb6, hb6, (hr.set k _).congr (fun i _ => ?_)⟩
        show (if i = k then Value.int .i64 (cntTo H d k k + d.line k) else .int .i64 (cntTo H d k i)) = .int .i64 (upd (cntTo H d k) k (cntTo H d k k + d.line k) i)
        unfold upd; split <;> rfl
      have uo : 0 ≤ upd (cntTo H d k) k (cntTo H d k k + d.line k) (d.other k) ∧ upd (cntTo H d k) k (cntTo H d k k + d.line k) (d.other k) ≤ 137438953472 * k + 68719476736 := by
        unfold upd
        split <;> omega
      have hnx := hide (cnt_next H d k)
      go_wp2_with (first | (go_at_call 56; refine C.mono ?_; rintro e w4 ⟨rfl, hB4⟩; have D4 := (D.below hB).below hB4; have R4 := R.of_block (hB4.block _ R.lt); have hB5 := hB.trans (hB4.mono hB.size); have cK := R4.cell hlt; have fK := R4.frozen k; clear C hB4 R hB) | (go_at_call 54; refine (draw_height p c n H d _ D4).mono ?_; rintro e w' ⟨rfl, rfl⟩))
      obtain ⟨D6, hB7, R6⟩ := hB6 _ hB5 R4
      have cO := R6.cell o1
      have fO := R6.frozen (d.other k)
      clear hB6 D4 R4 hB5 cK fK
      generalize w'.setCell ⟨w3.heap.size, k, none⟩ (.int .i64 (cntTo H d k k + d.line k)) = w6 at *
      generalize upd (cntTo H d k) k (cntTo H d k k + d.line k) = f at *
      have hwr : IntKind.i64.wrap (IntKind.i64.wrap (f (d.other k) + H) - d.line k) = f (d.other k) + H - d.line k := by rw [wrap_in (f (d.other k) + H) (by omega) (by omega), wrap_in _ (by omega) (by omega)]
      have HWR := hide hwr
      clear hwr
      have J7 : JAt w3 n H d (k + 1) (w6.setCell ⟨w3.heap.size, d.other k, none⟩ (.int .i64 (f (d.other k) + H - d.line k))).drew := by
        have hB8 := (hB7.setCell (p := ⟨w3.heap.size, d.other k, none⟩) (Nat.le_refl _) (.int .i64 (f (d.other k) + H - d.line k))).drew
        have R8 := (R6.set (d.other k) (.int .i64 (f (d.other k) + H - d.line k))).drew
        exact ⟨R8.congr (fun i _ => by rw [← hnx.out i]; unfold upd; split <;> rfl), hB8⟩
      clear hnx
      have PH : ∀ x, JAt w3 n H d (k + 1) x → Calls Tryd.prog 54 #[.pointer (some ⟨p, 0, none⟩)] x fun e w' => e = .returned (.int .i64 H) ∧ w' = x := fun x hx => draw_height p c n H d x (D.below hx.2)
      have PA : 0 < d.line k → ∀ x, JAt w3 n H d (k + 1) x → Calls Tryd.prog 57 #[.pointer (some ⟨p, 0, none⟩), .int .i64 k, .int .i64 (d.line k - 1)] x fun e w' => e = .returned (.tuple #[.int .i64 k, .nilIface]) ∧ JAt w3 n H d (k + 1) w' := fun z x hx => by
        have := draw_pick_yes p c n k (d.line k - 1) H d x (D.below hx.2) hlt (by omega) (by omega)
        have e : d.pick k (d.line k - 1) = k := if_pos (by omega)
        rw [e] at this
        exact this.mono (fun e w' h => ⟨h.1, hx.below h.2⟩)
      have PB : d.line k < H → ∀ x, JAt w3 n H d (k + 1) x → Calls Tryd.prog 57 #[.pointer (some ⟨p, 0, none⟩), .int .i64 k, .int .i64 (d.line k)] x fun e w' => e = .returned (.tuple #[.int .i64 (d.other k), .nilIface]) ∧ JAt w3 n H d (k + 1) w' := fun z x hx => by
        have := draw_pick_yes p c n k (d.line k) H d x (D.below hx.2) hlt l0 z
        have e : d.pick k (d.line k) = d.other k := if_neg (by omega)
        rw [e] at this
        exact this.mono (fun e w' h => ⟨h.1, hx.below h.2⟩)
      go_region_with (go_at_call 54; refine (draw_height p c n H d _ (by first | exact D6 | exact D6.drewN 1 | exact D6.drewN _)).mono ?_; rintro e w' ⟨rfl, rfl⟩)
      all_goals rw [HWR.out]
      all_goals clear R6 D6 hB7 HWR cO fO uo k1 k2
      all_goals generalize (w6.setCell ⟨w3.heap.size, d.other k, none⟩ (.int .i64 (f (d.other k) + H - d.line k))).drew = w7 at *
      all_goals
        by_cases z0 : 0 < d.line k
        · have PA' := PA z0
          clear PA
          by_cases z1 : d.line k < H
          · have PB' := PB z1
            clear PB
            go_wp2_with fail
            refine (PA' _ J7).mono ?_
            rintro e w8 ⟨rfl, J8⟩
            go_wp2_with fail
            refine (PH _ J8).mono ?_
            rintro e w' ⟨rfl, rfl⟩
            go_wp2_with fail
            refine (PB' _ J8).mono ?_
            rintro e w9 ⟨rfl, J9⟩
            go_wp2_with fail
            go_roundw
            case rel => exact ⟨k + 1, by omega, rfl, by go_num, J9⟩
            case measure => simp [intOf]; omega
          · clear PB
            go_wp2_with fail
            refine (PA' _ J7).mono ?_
            rintro e w8 ⟨rfl, J8⟩
            go_wp2_with fail
            refine (PH _ J8).mono ?_
            rintro e w' ⟨rfl, rfl⟩
            go_wp2_with fail
            go_roundw
            case rel => exact ⟨k + 1, by omega, rfl, by go_num, J8⟩
            case measure => simp [intOf]; omega
        · clear PA
          by_cases z1 : d.line k < H
          · have PB' := PB z1
            clear PB
            go_wp2_with fail
            refine (PH _ J7).mono ?_
            rintro e w' ⟨rfl, rfl⟩
            go_wp2_with fail
            refine (PB' _ J7).mono ?_
            rintro e w9 ⟨rfl, J9⟩
            go_wp2_with fail
            go_roundw
            case rel => exact ⟨k + 1, by omega, rfl, by go_num, J9⟩
            case measure => simp [intOf]; omega
          · clear PB
            go_wp2_with fail
            refine (PH _ J7).mono ?_
            rintro e w' ⟨rfl, rfl⟩
            go_wp2_with fail
            go_roundw
            case rel => exact ⟨k + 1, by omega, rfl, by go_num, J7⟩
            case measure => simp [intOf]; omega
    · obtain rfl : k = n := by omega
      have J := (⟨R, hB⟩ : JAt w3 k H d k wr)
      clear R hB hlt hk m1
      go_wp2_with fail
      go_loopw [2, 15] (fun r i wx => ∃ j : Nat, j ≤ k ∧ r = .bool false ∧ i = .int .i64 j ∧ JAt w3 k H d k wx) (fun _ i _ => k - (intOf i).toNat)
      case atStart => exact ⟨0, Nat.zero_le _, rfl, rfl, J⟩
      case round =>
        clear J
        obtain ⟨j, hj, rfl, rfl, J⟩ := hrel
        by_cases hlt : j < k
        · have c1 := J.1.cell hlt
          simp only [hc j hlt] at c1
          have c2 := hI3.below J.2 hb3 j hlt
          have hb2 := ht j hlt
          have e1 : (W j * k != W j * k) = false := by simp
          clear hc ht hcb hlb hI3
          go_wp2_with fail
          go_quiet (fail)
          go_wp2_with fail
          go_roundw
          case rel => exact ⟨j + 1, by omega, rfl, by go_num, J.drewN _⟩
          case measure => simp [intOf]; omega
        · clear hc ht hcb hlb hI3
          go_wp2_with fail
          go_ret
          exact ⟨rfl, hB3'.trans (J.2.mono hB3'.size)⟩
end Go.Proofs.YtlhffdmhbplpjaaDoor
