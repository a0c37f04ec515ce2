/-
  The law ScriptReads of package bakehouselaw3, walked, where there are not too many lines.
-/
import Derived.Test.YtmbfdhekplnoaaaGreatDoorAgainLib
import Derived.Test.YtmbfdhekplnoaaaGreatDoorTextsInX
import Derived.Test.YtmbfdhekplnoaaaGreatDoorHelloOfX
import Derived.Test.YtmbfdhekplnoaaaGreatDoorLineMathX
import Derived.Deep.CutBlock
import Derived.Deep.RegionHeld3
import Derived.Deep.DeepCutAuto
import Derived.Deep.LoopGhost
namespace Go.Proofs.YtmbfdhekplnoaaaGreatDoor
open Go.RowKit

set_option maxRecDepth 100000 in
set_option maxHeartbeats 4000000 in
theorem scriptReads_walk (seed : Nat) (hs : seed < W64) (a : Option Addr) (len cap : Nat) (T : Nat → List UInt8) (A : Nat → Addr) (w : World) (hL : ScLaid w A) (h100 : len ≤ 100) (hT : TextV w (.slice a len cap) len T) (hm : ∀ i, i < len → (T i).length ≤ 9223372036854775807) :
    Calls Tryz.prog 3 #[.int .u64 seed, .slice a len cap] w fun e w' => e = .returned (.bool true) ∧ Below w.heap.size w w' := by
  go_enter Tryz.func3, Tryz.ntmps3
  go_wp2_with fail
  refine (hello_of A w hL).mono ?_
  rintro e w1 ⟨rfl, hB1⟩
  go_wp2_with fail
  go_loopw [6, 7] (fun v i wr => ∃ (k : Nat), k ≤ len ∧ i = .int .i64 k ∧ wr.ownsRow w.heap.size 9 1 v k (tRow T k) ∧ Below w.heap.size w wr ∧ w.heap.size ≤ wr.heap.size ∧ Hid (∀ i, i < k → (T i).length ≤ 200)) (fun _ i _ => len - (intOf i).toNat)
  case atStart => exact ⟨0, Nat.zero_le _, rfl, World.ownsRow_nil _ _ _ _, hB1, hB1.size, hide fun i hi => by omega⟩
  case round =>
    obtain ⟨k, hk, rfl, own, hB, hsz, hl⟩ := hrel
    clear hB1
    obtain ⟨aR, cR, rfl⟩ := again_shape own
    have V := hT.below hB
    obtain ⟨a', cap', e, hcap, g⟩ := id V
    cases e
    by_cases hlt : k < len
    · obtain ⟨b, off, rfl, lt, c0⟩ := g k hlt
      have hmk := hm k hlt
      have zs : (bs (T k)).size = (T k).length := bs_size _
      by_cases h1 : (T k).length ≤ 100
      · have hB5 : Below wr.heap.size wr (wr.alloc (.cells #[.string (bs (T k))] 9)) := (Below.refl _ _).alloc (Nat.le_refl _) _
        have ow := again_below own hB5
        have B5 := hB.trans (hB5.mono hsz)
        have lB := Nat.le_trans hsz hB5.size
        have lo := fun q e => (ow.lt q e).1
        obtain ⟨i0, hi, hz0, hz1, hz2⟩ := info_parts Tryz.infoStrT
        have N6 : ∀ j u, [Value.string (bs (T k))][j]? = some u → (wr.alloc (.cells #[.string (bs (T k))] 9)).cell? ((⟨wr.heap.size, 0, none⟩ : Addr).add j) = some u := World.news_of_block (heap_alloc_new wr _)
        have one : ∀ u ∈ [Value.string (bs (T k))], u.oneCell' = true := by simp [Value.oneCell']
        have l63 : k + 1 ≤ maxLen := by simp only [maxLen]; omega
        have l64 : (k + 1) * 16 ≤ 140737488355328 := by omega
        have hl2 : Hid (∀ i, i < k + 1 → (T i).length ≤ 200) := hide fun i hi => by
          rcases Nat.lt_or_eq_of_le (Nat.le_of_lt_succ hi) with z | z
          · exact hl.out i z
          · rw [z]; omega
        have z1 : ((bs (T k)).size : Int) ≤ 100 := by omega
        clear own V g hl hB hB5 hT zs
        go_wp2_with (at_builtin; refine wpList_append_lies _ rfl (.tmp 36) (.tmp 41) 23 rfl w.heap.size 9 i0 (.string { data := #[] }) 1 16 Tryz.underlying23 hi hz0 hz1 hz2 rfl (by decide) _ k (tRow T k) rfl ow ⟨wr.heap.size, 0, none⟩ 1 1 [.string (bs (T k))] rfl rfl N6 one (by decide) l63 l64 lB _ rfl ?_; intro gN capN w6 hown hgrow hat hltN)
        have B6 := again_grown B5 lB lo hgrow
        have sz6 := Nat.le_trans lB hgrow.size
        clear hgrow hat N6 ow B5 lo
        go_roundw
        case rel => exact ⟨k + 1, by omega, by go_num, hown, B6, sz6, hl2⟩
        case measure => simp [intOf]; omega
      · have z1 : 100 < ((bs (T k)).size : Int) := by omega
        clear own V g zs
        go_wp2_with fail
        go_ret
        exact ⟨rfl, hB⟩
    · obtain rfl : k = len := by omega
      have T1 := text_reads own
      have L1 := hL.below hB
      clear own g
      go_wp2_with fail
      refine (sc_run seed hs _ k h100 T hl.out A wr L1 T1).mono ?_
      rintro e w3 ⟨u, O, C, rfl, said, VO, hB3⟩
      have V3 := V.below hB3
      have B3 := hB.trans (hB3.mono hsz)
      have sz3 := Nat.le_trans hsz hB3.size
      obtain ⟨aU, cU, rfl, _, gO⟩ := id VO
      obtain ⟨a', cap', e, _, gT⟩ := id V3
      cases e
      have SD := hide (SaidTo.at k said)
      have d1 : ((k : Int) != (k : Int)) = false := by simp
      clear V T1 L1 hB hB3 said
      go_wp2_with fail
      go_loopg [10] k (fun g i wx => ∃ p : Nat, p ≤ k ∧ g = k - p ∧ i = .int .i64 p ∧ Below w3.heap.size w3 wx)
      case atStart => exact ⟨0, Nat.zero_le _, rfl, rfl, Below.refl _ _⟩
      case round =>
        obtain ⟨p, hp, rfl, rfl, hX⟩ := hrel
        by_cases hlt : p < k
        · obtain ⟨b, off, rfl, _, c0'⟩ := gT p hlt
          obtain ⟨b2, o2, rfl, _, c1'⟩ := gO p hlt
          obtain ⟨D, D', sy⟩ := SD.out p hlt
          have sl := hl.out p hlt
          have c0 := line_old hX c0'
          have c1 := line_old hX c1'
          generalize T p = s at *
          generalize O p = o at *
          replace sy := hide sy
          clear gT gO c0' c1' d1 V3 VO
          go_upto_block 4 with fail
          go_cut [11, 12] (fun ws _ wx => wx = wr ∧ ws = .string (bs (wordL s)))
          case first =>
            clear c1
            go_wp2_with fail
            go_loopg [11, 12] s.length (fun g ws i wy => wy = wr ∧ ∃ q : Nat, q ≤ s.length ∧ g = s.length - q ∧ i = .int .i64 q ∧ ws = .string (bs (s.take q)) ∧ Hid (∀ i, i < q → s.getD i 0 ≠ 32))
            case atStart => exact ⟨rfl, 0, Nat.zero_le _, rfl, rfl, rfl, hide fun i hi => by omega⟩
            case round =>
              obtain ⟨hwy, q, hq, rfl, rfl, rfl, hN⟩ := hrel
              obtain rfl := hwy.symm
              clear hwy
              have zs : (bs s).size = s.length := bs_size s
              by_cases hql : q < s.length
              · obtain ⟨y, hy⟩ : ∃ y : UInt8, s.getD q 0 = y := ⟨_, rfl⟩
                have ix := fun x => index_form s q hql x
                rw [hy] at ix
                by_cases h32 : y = 32
                · have hw : wordL s = s.take q := wordL_take s q hq hN.out (.inr (by rw [hy, h32]))
                  rw [h32] at ix
                  rw [← hw]
                  clear hN hw hy
                  generalize bs (wordL s) = pre at *
                  go_wp2_with fail
                  go_meet
                  exact ⟨rfl, rfl⟩
                · have so := fun x => slice_one s q hql x
                  have ad : ∀ x : World, (Op.stringOp .add (bs (s.take q)) (bs [y])).run Tryz.prog x = .ok (.string (bs (s.take (q + 1)))) x := fun x => by
                    rw [run_string_add_sum x _ _ (by rw [bs_size, bs_size, List.length_take]; simp only [List.length_cons, List.length_nil]; omega), bs_append, ← hy, ← take_nextR s q hql]
                  have hN2 : Hid (∀ i, i < q + 1 → s.getD i 0 ≠ 32) := hide fun i hi => by
                    rcases Nat.lt_or_eq_of_le (Nat.le_of_lt_succ hi) with z | z
                    · exact hN.out i z
                    · rw [z, hy]; exact h32
                  rw [hy] at so
                  obtain ⟨n, hn⟩ : ∃ n : Nat, y.toNat = n := ⟨_, rfl⟩
                  have y2 : ((n : Int) != 32) = true := by
                    have : n ≠ 32 := fun e => h32 (UInt8.toNat_inj.mp (by rw [hn]; show n = 32; exact e))
                    simp only [bne_iff_ne, ne_eq]; omega
                  rw [hn] at ix
                  obtain ⟨V, hV⟩ : ∃ V : ByteArray, bs (s.take (q + 1)) = V := ⟨_, rfl⟩
                  rw [hV] at ad
                  replace hV := hide hV
                  clear h32 hN hy hn
                  generalize bs (s.take q) = pre at *
                  generalize bs [y] = Y at *
                  go_wp2_with fail
                  go_roundg (s.length - (q + 1))
                  case measure => omega
                  case rel => exact ⟨rfl, q + 1, by omega, rfl, by go_num, by rw [hV.out], hN2⟩
              · obtain rfl : q = s.length := by omega
                have hw : wordL s = s.take s.length := wordL_take s s.length hq hN.out (.inl rfl)
                rw [← hw]
                clear hN hw
                generalize bs (wordL s) = pre at *
                go_wp2_with fail
                go_meet
                exact ⟨rfl, rfl⟩
          case rest =>
            obtain ⟨hwc, rfl⟩ := hcut
            obtain rfl := hwc.symm
            clear hwc c0
            have hF := fun x => formOf_of (bs (wordL s)) x
            rw [toList_bs] at hF
            go_wp2_with fail
            refine (hF _).mono ?_
            rintro e w5 ⟨rfl, hw5⟩
            obtain rfl := hw5.symm
            clear hw5 hF
            cases hform : formL (wordL s) with
            | none =>
              have o1 : o = errT 1 := sy.out.noWord hform
              subst o1
              unfold formV
              clear hform sy
              have ET := errorText_of 1 (by omega) (by omega)
              generalize hEE : bs (errT 1) = E at *
              have n1 : (E.toList == []) = false := by rw [← hEE, toList_bs]; decide
              have n2 : (E.toList != E.toList) = false := by simp
              clear hEE
              go_wp2_with fail
              go_region_held3 (fun w' => w'.cell? ⟨b2, o2 + p, none⟩ = some (.string E)) (assumption)
                (first
                  | (go_at_call 11; refine (ET _).mono ?_; rintro e w5 ⟨rfl, hB5⟩; have c5 : w5.cell? ⟨b2, o2 + p, none⟩ = some (.string E) := line_old hB5 c1; have hX5 : Below w3.heap.size w3 w5 := (by first | exact hX.trans (hB5.mono hX.size) | exact (below_drewN hX _).trans (hB5.mono hX.size))))
              go_wp2_with fail
              go_roundg (k - (p + 1))
              case measure => omega
              case rel => exact ⟨p + 1, by omega, rfl, by go_num, by first | exact hX5 | exact below_drewN hX5 _⟩
            | some f =>
              have o1 : o ≠ [] := sy.out.pos
              have n1 : ((bs o).toList == []) = false := by rw [toList_bs]; simpa using o1
              unfold formV
              clear hform sy o1
              generalize bs o = E at *
              go_wp2_with fail
              go_quiet (fail)
              go_wp2_with fail
              go_roundg (k - (p + 1))
              case measure => omega
              case rel => exact ⟨p + 1, by omega, rfl, by go_num, below_drewN hX _⟩
        · obtain rfl : p = k := by omega
          have B := B3.trans (hX.mono sz3)
          clear gT gO d1 V3 VO
          go_wp2_with fail
          go_ret
          exact ⟨rfl, B⟩
end Go.Proofs.YtmbfdhekplnoaaaGreatDoor
