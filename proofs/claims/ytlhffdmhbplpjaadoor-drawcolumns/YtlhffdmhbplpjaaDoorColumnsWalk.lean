/-
  The law DrawColumns, walked.
-/
import Derived.Test.YtlhffdmhbplpjaaDoorRefNewDraw
import Derived.Test.YtlhffdmhbplpjaaDoorFaulted
namespace Go.Proofs.YtlhffdmhbplpjaaDoor
open Go.RowKit Go.Deep

theorem Laid.draw {w : World} {A : Nat → Addr} (h : Laid w A) : DrawLaid w A := ⟨h.v1, h.v2, h.v3⟩

theorem cols_more (a : Option Addr) (len cap : Nat) (c x : Int) (w : World) (h : 100 < len) (hm : len ≤ 9223372036854775807) :
    Calls Tryd.prog 11 #[.slice a len cap, .int .i64 c, .int .i64 x] w fun e w' => e = .returned (.bool true) ∧ Below w.heap.size w w' := by
  go_enter Tryd.func11, Tryd.ntmps11
  go_wp2_with (go_at_call 49; refine (drawn_of _).mono ?_; rintro e w1 ⟨rfl, hB1⟩)
  go_ret
  exact ⟨rfl, hB1⟩

set_option maxRecDepth 100000 in
set_option maxHeartbeats 1000000 in
theorem cols_err (a : Option Addr) (len cap : Nat) (c x : Int) (w : World) (h : len ≤ 100) (z p : Int) (hz : 0 < z)
    (O : ∀ w', Below w.heap.size w w' → Calls Tryd.prog 51 #[.slice a len cap] w' fun e w'' => ∃ v, e = .returned v ∧ Below w.heap.size w w'' ∧
      Calls Tryd.prog 50 #[v] w'' fun e w3 => ∃ u y, e = .returned (.tuple #[.pointer none, .iface u y]) ∧ Below w.heap.size w w3 ∧ Tells w3 (.iface u y) z p)
    (F : ∀ w', Below w.heap.size w w' → Calls Tryd.prog 52 #[.slice a len cap] w' fun e w'' => e = .returned (.agg #[.int .i64 z, .int .i64 p]) ∧ Below w'.heap.size w' w'') :
    Calls Tryd.prog 11 #[.slice a len cap, .int .i64 c, .int .i64 x] w fun e w' => e = .returned (.bool true) ∧ Below w.heap.size w w' := by
  go_enter Tryd.func11, Tryd.ntmps11
  go_wp2_with fail
  refine (drawn_of w).mono ?_
  rintro e w1 ⟨rfl, hB1⟩
  go_wp2_with fail
  refine (O w1 hB1).mono ?_
  rintro e w2 ⟨v, rfl, hB2, N⟩
  go_wp2_with fail
  refine N.mono ?_
  rintro e w3 ⟨u, y, rfl, hB3, hT⟩
  have HT := hide hT
  clear hT N O
  go_wp2_with fail
  refine (F w3 hB3).mono ?_
  rintro e w4 ⟨rfl, hB4⟩
  have hB5 := hB3.trans (hB4.mono hB3.size)
  have HT5 := hide (HT.out.below (hB4.trans (((Below.refl w4.heap.size w4).alloc (Nat.le_refl _) (.cells #[.int .i64 z, .int .i64 p] 41)).mono hB4.size)))
  have FT := hide (faulted_of HT5.out)
  clear HT HT5 F hB4
  go_wp2_with fail
  refine FT.out.mono ?_
  rintro e w6 ⟨rfl, hB6⟩
  have hB7 : Below w.heap.size w w6 := (hB5.alloc hB5.size _).trans (hB6.mono (by simp; have := hB5.size; omega))
  clear hB6 FT
  go_wp2_with fail
  go_ret
  exact ⟨rfl, hB7⟩

set_option maxRecDepth 100000 in
set_option maxHeartbeats 4000000 in
theorem cols_fine (b off n cap : Nat) (W : Nat → Int) (q x : Int) (A : Nat → Addr) (w : World) (hLa : Laid w A) (hI : Ints w b off n W) (hb : b < w.heap.size) (hW : Weights n W) (h0 : sumTo W n ≠ 0) :
    Calls Tryd.prog 11 #[.slice (some ⟨b, off, none⟩) n cap, .int .i64 q, .int .i64 x] w fun e w' => e = .returned (.bool true) ∧ Below w.heap.size w w' := by
  have n1 := hW.n1
  have n64 := hW.n64
  go_enter Tryd.func11, Tryd.ntmps11
  go_wp2_with fail
  refine (drawn_of w).mono ?_
  rintro e w1 ⟨rfl, hB1⟩
  have hI1 := hI.below hB1 hb
  go_wp2_with fail
  refine (ownInts_some b off n cap W w1 hI1 (by omega) (by omega)).mono ?_
  rintro e w2 ⟨m, cap', rfl, hm, hI2, hB2⟩
  have hB2' := hB1.trans (hB2.mono hB1.size)
  go_wp2_with fail
  refine (new_fine m 0 n cap' W w2 hI2 hm hW h0).mono ?_
  rintro e w3 ⟨p, c, rfl, hp, D, hB3⟩
  have hB3' := hB2'.trans (hB3.mono hB2'.size)
  clear hB1 hB2 hB3 hI1 hI2 hp hm hB2'
  go_wp2_with fail
  refine (wf_fine b off n cap W w3 (hI.below hB3' hb) hW 0 (.inr ⟨rfl, h0⟩)).mono ?_
  rintro e w4 ⟨rfl, hB4⟩
  have hB5 : Below w3.heap.size w3 (w4.alloc (.cells #[.int .i64 0, .int .i64 (-1)] 41)) := hB4.alloc hB4.size _
  have hB6 := hB3'.trans (hB5.mono hB3'.size)
  have D5 := D.below hB5
  clear hB4 hB5 D
  go_wp2_with fail
  generalize w4.alloc (.cells #[.int .i64 0, .int .i64 (-1)] 41) = w5 at *
  have hb5 : b < w5.heap.size := Nat.lt_of_lt_of_le hb hB6.size
  refine (ref_newDraw b off n cap W w5 (hI.below hB6 hb) hb5 hW).mono ?_
  rintro e w6 ⟨D', L, O, rfl, _, E, hB7⟩
  have D6 := D5.below hB7
  have hB8 := hB6.trans (hB7.mono hB6.size)
  have hL6 := hLa.below hB8
  have hS := hW.sum
  have hin := (dend_inv n W (fun k hk => (hW.bd k hk).1)).line_bd hS.1
  clear D5 hB6 hB7 hB3' h0 hW hI
  generalize sumTo W n = H at *
  generalize dend n W = d at *
  have cH := E.c0
  have t1 : (H != H) = false := by simp
  have t2 : ((n : Int) != (n : Int)) = false := by simp
  go_wp2_with fail
  go_quiet (first | (go_at_call 54; exact Calls.quiet_of_same (draw_height p c n H d _ (D6.drewN _))) | (go_at_call 55; exact Calls.quiet_of_same (draw_columns p c n H d _ (D6.drewN _))))
  have J0 := below_drewN (Below.refl w6.heap.size w6) nq
  clear cH t1 t2
  generalize w6.drewN nq = w7 at *
  go_wp2_with fail
  go_loopw [6, 12] (fun r i wr => ∃ k : Nat, k ≤ n ∧ r = .bool false ∧ i = .int .i64 k ∧ Below w6.heap.size w6 wr) (fun _ i _ => n - (intOf i).toNat)
  case atStart => exact ⟨0, Nat.zero_le _, rfl, rfl, J0⟩
  case round =>
    clear J0
    obtain ⟨k, hk, rfl, rfl, J⟩ := hrel
    by_cases hlt : k < n
    · have C := draw_column_yes p c n k H d wr (D6.below J) hlt
      have t1 : (d.line k != d.line k) = false := by simp
      have t2 : (d.other k != d.other k) = false := by simp
      have t3 : ((d.other k : Int) != (d.other k : Int)) = false := by simp
      go_wp2_with fail
      refine C.mono ?_
      rintro e w8 ⟨rfl, hB9⟩
      have J8 := J.trans (hB9.mono J.size)
      have E8 := E.below J8
      have c1 := E8.c1
      have c2 := E8.c2
      have cl := E8.l k hlt
      have co := E8.o k hlt
      clear C hB9 E8
      go_wp2_with fail
      go_roundw
      case rel => exact ⟨k + 1, by omega, rfl, by go_num, J8⟩
      case measure => simp [intOf]; omega
    · obtain rfl : n = k := by omega
      have C := draw_column_no p c n n H d A wr (hL6.below J).draw (D6.below J) (.inr (Int.le_refl _))
      clear hlt hk
      go_wp2_with fail
      refine C.mono ?_
      rintro e w8 ⟨rfl, hB9⟩
      have J8 := J.trans (hB9.mono J.size)
      clear C hB9 J
      by_cases hq : (0 ≤ q ∧ q < n) ∧ (0 ≤ x ∧ x < H)
      · obtain ⟨⟨q0, q1⟩, x0, x1⟩ := hq
        obtain ⟨j, rfl⟩ : ∃ j : Nat, q = j := ⟨q.toNat, by omega⟩
        have Pk := draw_pick_yes p c n j x H d w8 (D6.below J8) (by omega) x0 x1
        have jn : j < n := by omega
        go_wp2_with fail
        refine Pk.mono ?_
        rintro e w9 ⟨rfl, hB10⟩
        have J9 := J8.trans (hB10.mono J8.size)
        have E9 := E.below J9
        have cH := E9.c0
        have T9 := hide (coded_of (tells_sent (hL6.below J9) 1 (by omega)))
        have t4 : (d.pick j x == d.pick j x) = true := by simp
        have Rp := hide (ref_pick D' L O n j x H d w9 E9 jn)
        clear Pk hB10
        go_wp2_with fail
        refine Rp.out.mono ?_
        rintro e w10 ⟨rfl, rfl⟩
        go_wp2_with fail
        refine T9.out.mono ?_
        rintro e w11 ⟨rfl, hB11⟩
        have J11 := J9.trans (hB11.mono J9.size)
        clear T9 Rp hB11
        go_wp2_with fail
        go_ret
        exact ⟨rfl, hB8.trans (J11.mono hB8.size)⟩
      · have Pk := draw_pick_no p c n q x H d A w8 (hL6.below J8).draw (D6.below J8) (by omega)
        go_wp2_with fail
        refine Pk.mono ?_
        rintro e w9 ⟨rfl, hB10⟩
        have J9 := J8.trans (hB10.mono J8.size)
        have E9 := E.below J9
        have cH := E9.c0
        have T9 := hide (coded_of (tells_sent (hL6.below J9) 1 (by omega)))
        clear Pk hB10
        by_cases q0 : q < 0
        · clear hq
          go_wp2_with fail
          refine T9.out.mono ?_
          rintro e w10 ⟨rfl, hB11⟩
          have J10 := J9.trans (hB11.mono J9.size)
          have T10 := hide (coded_of (tells_sent (hL6.below J10) 1 (by omega)))
          clear T9 hB11
          go_wp2_with fail
          refine T10.out.mono ?_
          rintro e w11 ⟨rfl, hB12⟩
          have J11 := J10.trans (hB12.mono J10.size)
          clear T10 hB12
          go_wp2_with fail
          go_ret
          exact ⟨rfl, hB8.trans (J11.mono hB8.size)⟩
        · by_cases q1 : (n : Int) ≤ q
          · clear hq
            go_wp2_with fail
            refine T9.out.mono ?_
            rintro e w10 ⟨rfl, hB11⟩
            have J10 := J9.trans (hB11.mono J9.size)
            have T10 := hide (coded_of (tells_sent (hL6.below J10) 1 (by omega)))
            clear T9 hB11
            go_wp2_with fail
            refine T10.out.mono ?_
            rintro e w11 ⟨rfl, hB12⟩
            have J11 := J10.trans (hB12.mono J10.size)
            clear T10 hB12
            go_wp2_with fail
            go_ret
            exact ⟨rfl, hB8.trans (J11.mono hB8.size)⟩
          · by_cases x0 : x < 0
            · clear hq
              go_wp2_with fail
              refine T9.out.mono ?_
              rintro e w10 ⟨rfl, hB11⟩
              have J10 := J9.trans (hB11.mono J9.size)
              have T10 := hide (coded_of (tells_sent (hL6.below J10) 1 (by omega)))
              clear T9 hB11
              go_wp2_with fail
              refine T10.out.mono ?_
              rintro e w11 ⟨rfl, hB12⟩
              have J11 := J10.trans (hB12.mono J10.size)
              clear T10 hB12
              go_wp2_with fail
              go_ret
              exact ⟨rfl, hB8.trans (J11.mono hB8.size)⟩
            · have x1 : H ≤ x := by omega
              clear hq
              go_wp2_with fail
              refine T9.out.mono ?_
              rintro e w10 ⟨rfl, hB11⟩
              have J10 := J9.trans (hB11.mono J9.size)
              have T10 := hide (coded_of (tells_sent (hL6.below J10) 1 (by omega)))
              clear T9 hB11
              go_wp2_with fail
              refine T10.out.mono ?_
              rintro e w11 ⟨rfl, hB12⟩
              have J11 := J10.trans (hB12.mono J10.size)
              clear T10 hB12
              go_wp2_with fail
              go_ret
              exact ⟨rfl, hB8.trans (J11.mono hB8.size)⟩
end Go.Proofs.YtlhffdmhbplpjaaDoor
