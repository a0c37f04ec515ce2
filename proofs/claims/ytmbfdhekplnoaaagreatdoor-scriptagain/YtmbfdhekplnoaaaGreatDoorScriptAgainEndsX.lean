/-
  A beginning of a slice of strings; an own copy of one.
  The law ScriptAgain of package bakehouselaw3, walked: for every seed, every slice of lines and every place to cut it returns true.
  The law ScriptAgain, where there is too much or no place to cut; all of it.
-/
import Derived.Test.YtmbfdhekplnoaaaGreatDoorTextOwnX
import Derived.Test.YtmbfdhekplnoaaaGreatDoorIssueMathX
import Derived.Test.YtmbfdhekplnoaaaGreatDoorAgainLib
import Derived.Test.YtmbfdhekplnoaaaGreatDoorHelloOfX
import Derived.Test.YtmbfdhekplnoaaaGreatDoorRefLineNoX
import Derived.Test.YtmbfdhekplnoaaaGreatDoorLinesIn
import Derived.Test.YtmbfdhekplnoaaaGreatDoorLinesOfX
namespace Go.Proofs.YtmbfdhekplnoaaaGreatDoor
open Go.RowKit

theorem Tryz.elemOfTexts : Tryz.prog.elem 23 = 9 := by kernel_rfl
theorem sizeOfText (w : World) : (sizeOf 9).run Tryz.prog w = .ok 1 w := by kernel_rfl
theorem tcut_h (w : World) (a : Option Addr) (len cap c : Nat) (h : c ≤ cap) : (Instr.slice 23 (.slice a len cap) none (some (.int .i64 c)) none).run Tryz.prog w = .ok (sliced a 0 c cap 1) w := by
  rw [run_slice_h (P := Tryz.prog) w 23 a len cap (by rw [Tryz.elemOfTexts]; exact Tryz.underlying23) .i64 c (by omega) (by omega), Tryz.elemOfTexts, sizeOfText]
  rfl
theorem TextV.cells {w : World} {a : Option Addr} {n cap : Nat} {T : Nat → List UInt8} (h : TextV w (.slice a n cap) n T) (h0 : 0 < n) : ∃ b off, a = some ⟨b, off, none⟩ ∧ ∀ i, i < n → w.cell? ⟨b, off + i, none⟩ = some (.string (bs (T i))) := by
  obtain ⟨a', cap', e, _, g⟩ := h
  cases e
  obtain ⟨b, off, e, _, _⟩ := g 0 h0
  refine ⟨b, off, e, fun i hi => ?_⟩
  obtain ⟨b', off', e', _, c⟩ := g i hi
  rw [e] at e'
  cases e'
  exact c
/-- a beginning -/
theorem TextV.first {w : World} {a : Option Addr} {n cap : Nat} {T : Nat → List UInt8} (h : TextV w (.slice a n cap) n T) (c : Nat) (hc : c ≤ n) : ∃ u, (∀ x : World, (Instr.slice 23 (.slice a n cap) none (some (.int .i64 c)) none).run Tryz.prog x = .ok u x) ∧ ∀ x : World, TextV x (.slice a n cap) n T → TextV x u c T := by
  obtain ⟨a', cap', e, hcap, _⟩ := h
  cases e
  refine ⟨_, fun x => tcut_h x a n cap c (by omega), fun x ⟨a', cap', e, hcap, g⟩ => ?_⟩
  cases e
  rcases Nat.eq_zero_or_pos c with rfl | h0
  · exact ⟨_, _, rfl, Nat.zero_le _, fun i hi => by omega⟩
  · obtain ⟨b, off, rfl, lt, _⟩ := g 0 (by omega)
    have e : sliced (some ⟨b, off, none⟩) 0 c cap 1 = .slice (some ⟨b, off, none⟩) c cap := by
      unfold sliced
      rw [if_neg (by omega)]
      simp [add_plain]
    rw [e]
    refine ⟨_, _, rfl, by omega, fun i hi => ?_⟩
    obtain ⟨b', off', e', lt', c'⟩ := g i (by omega)
    exact ⟨b', off', e', lt', c'⟩
theorem Tryz.infoTexts : (Tryz.prog.info? 9).map (fun i => (i.zero, i.size, i.bytes)) = some (some (.string { data := #[] }), 1, 16) := by kernel_rfl
/-- nothing is appended -/
theorem append_no_text (w : World) (ty : TypeId) (a : Option Addr) (c : Nat) :
    (Builtin.append_ #[23, 23] ty #[.slice none 0 0, .slice a 0 c]).run Tryz.prog w = .ok (.slice none 0 0) w := by
  obtain ⟨i, hi, hz, hs, hb⟩ := info_parts Tryz.infoTexts
  cases a <;> simp [Builtin.append_, run_underlying Tryz.underlying23, sizeOf, typeInfo, hi, Builtin.lenOf, Builtin.firstCells, loadCells, loadCellsFrom]
theorem tRow_one (T : Nat → List UInt8) : ∀ k, ∀ u ∈ tRow T k, u.oneCell' = true
  | 0, u, h => by cases h
  | k + 1, u, h => by
    rcases List.mem_append.1 h with h | h
    · exact tRow_one T k u h
    · rw [List.mem_singleton.1 h]; rfl
end Go.Proofs.YtmbfdhekplnoaaaGreatDoor

namespace Go.Proofs.YtmbfdhekplnoaaaGreatDoor
open Go.RowKit

set_option maxRecDepth 100000 in
set_option maxHeartbeats 4000000 in
theorem scriptAgain_walk (seed : Nat) (hs : seed < W64) (a0 : Option Addr) (b off len cap : Nat) (ha0 : 0 < len → a0 = some ⟨b, off, none⟩) (cut : Int) (hc0 : 0 ≤ cut) (hc1 : cut ≤ len) (A : Nat → Addr) (w : World) (hL : ScLaid w A) (hb0 : 0 < len → b < w.heap.size) (h40 : len ≤ 40) (hA : Lns w b off len) :
    Calls Tryz.prog 4 #[.int .u64 seed, .slice a0 len cap, .int .i64 cut] w fun e w' => e = .returned (.bool true) ∧ Below w.heap.size w w' := by
  go_enter Tryz.func4, Tryz.ntmps4
  go_wp2_with fail
  refine (hello_of A w hL).mono ?_
  rintro e w1 ⟨rfl, hB1⟩
  go_wp2_with fail
  go_loopw [8, 9, 10] (fun v x i wr => ∃ (k j c : Nat) (L : Nat → List UInt8), k ≤ len ∧ j ≤ k ∧ c ≤ j ∧ i = .int .i64 k ∧ x = .int .i64 c ∧ wr.ownsRow w.heap.size 9 1 v j (tRow L j) ∧ Below w.heap.size w wr ∧ w.heap.size ≤ wr.heap.size ∧ Hid (∀ i, i < j → (L i).length ≤ 200)) (fun _ _ i _ => len - (intOf i).toNat)
  case atStart => exact ⟨0, 0, 0, fun _ => [], Nat.zero_le _, Nat.le_refl _, Nat.le_refl _, rfl, rfl, World.ownsRow_nil _ _ _ _, hB1, hB1.size, hide fun i hi => by omega⟩
  case round =>
    obtain ⟨k, j, c, L, hk, hj, hcj, rfl, rfl, own, hB, hsz, hl⟩ := hrel
    clear hB1
    obtain ⟨aR, cR, rfl⟩ := again_shape own
    by_cases hlt : k < len
    · obtain rfl := ha0 (by omega)
      have hb := hb0 (by omega)
      clear ha0 hb0
      obtain ⟨wd, a, n, cp, X, l⟩ := hA k hlt
      have l' : LnAt wr b (off + k * 2) wd a n cp X := by
        have e : ∀ k, wr.cell? ⟨b, k, none⟩ = w.cell? ⟨b, k, none⟩ := fun k => hB.cell (p := ⟨b, k, none⟩) hb
        exact ⟨(e _).trans l.c0, (e _).trans l.c1, l.row.below hB, l.nm, l.sm⟩
      have c0 := l'.c0
      have c1 := l'.c1
      have nm := l.nm
      have sm := l.sm
      by_cases n5 : n ≤ 5
      · by_cases h6 : wd.size ≤ 60
        · have hd : wd.toList.length ≤ 60 := by rw [again_len]; exact h6
          by_cases hc : ∃ f, formL wd.toList = some f ∧ n = f.length ∧ ∀ i, i < n → 0 ≤ X i ∧ X i ≤ mostOf f i
          · obtain ⟨f, hf, hn, hX⟩ := hc
            have LY := fun x R => lineOf_yes wd a n cp X f hf hn n5 hX hd x R
            have tl := cmdText_len wd.toList X n (fun i hi => by have := hX i hi; have := mostOf_top f i; omega) n (Nat.le_refl _)
            have row := l'.row
            clear hf hn hX l l'
            go_wp2_with fail
            refine (LY wr row).mono ?_
            rintro e w3 ⟨rfl, hB3⟩
            have sl : (cmdText wd.toList (natsOf X n)).length ≤ 200 := by omega
            generalize hsx : cmdText wd.toList (natsOf X n) = s at *
            have own3 := again_below own hB3
            have B3 := hB.trans (hB3.mono hsz)
            have hB5 : Below w3.heap.size w3 (w3.alloc (.cells #[.string (bs s)] 9)) := (Below.refl _ _).alloc (Nat.le_refl _) _
            have ow := again_below own3 hB5
            have sz3 := Nat.le_trans hsz hB3.size
            have B5 := B3.trans (hB5.mono sz3)
            have lB := Nat.le_trans sz3 hB5.size
            have lo := fun q e => (ow.lt q e).1
            obtain ⟨i0, hi, hz0, hz1, hz2⟩ := info_parts Tryz.infoStrT
            have N6 : ∀ j u, [Value.string (bs s)][j]? = some u → (w3.alloc (.cells #[.string (bs s)] 9)).cell? ((⟨w3.heap.size, 0, none⟩ : Addr).add j) = some u := World.news_of_block (heap_alloc_new w3 _)
            have one : ∀ u ∈ [Value.string (bs s)], u.oneCell' = true := by simp [Value.oneCell']
            have l63 : j + 1 ≤ maxLen := by simp only [maxLen]; omega
            have l64 : (j + 1) * 16 ≤ 140737488355328 := by omega
            have hl2 : Hid (∀ i, i < j + 1 → (setT L j s i).length ≤ 200) := hide fun i hi => by
              rcases Nat.lt_or_eq_of_le (Nat.le_of_lt_succ hi) with z | z
              · rw [setT_old L s z]; exact hl.out i z
              · rw [z, setT_at]; exact sl
            clear hsx own own3 hB hB3 B3 hB5 row c0 c1 LY tl hl sz3 hsz
            by_cases hkc : (k : Int) < cut
            · go_wp2_with (at_builtin; refine wpList_append_lies _ rfl (.tmp 68) (.tmp 70) 23 rfl w.heap.size 9 i0 (.string { data := #[] }) 1 16 Tryz.underlying23 hi hz0 hz1 hz2 rfl (by decide) _ j (tRow L j) rfl ow ⟨w3.heap.size, 0, none⟩ 1 1 [.string (bs s)] rfl rfl N6 one (by decide) l63 l64 lB _ rfl ?_; intro gN capN w6 hown hgrow hat hltN)
              have B6 := again_grown B5 lB lo hgrow
              have sz6 := Nat.le_trans lB hgrow.size
              rw [← tRow_next] at hown
              clear hgrow hat N6 ow B5 lo
              go_roundw
              case rel => exact ⟨k + 1, j + 1, j + 1, _, by omega, by omega, by omega, by go_num, by go_num, hown, B6, sz6, hl2⟩
              case measure => simp [intOf]; omega
            · go_wp2_with (at_builtin; refine wpList_append_lies _ rfl (.tmp 68) (.tmp 70) 23 rfl w.heap.size 9 i0 (.string { data := #[] }) 1 16 Tryz.underlying23 hi hz0 hz1 hz2 rfl (by decide) _ j (tRow L j) rfl ow ⟨w3.heap.size, 0, none⟩ 1 1 [.string (bs s)] rfl rfl N6 one (by decide) l63 l64 lB _ rfl ?_; intro gN capN w6 hown hgrow hat hltN)
              have B6 := again_grown B5 lB lo hgrow
              have sz6 := Nat.le_trans lB hgrow.size
              rw [← tRow_next] at hown
              clear hgrow hat N6 ow B5 lo
              go_roundw
              case rel => exact ⟨k + 1, j + 1, c, _, by omega, by omega, by omega, by go_num, rfl, hown, B6, sz6, hl2⟩
              case measure => simp [intOf]; omega
          · have LN := fun x R => lineOf_no wd a n cp X n5 hd hc x R
            have row := l'.row
            clear hc l l'
            go_wp2_with fail
            refine (LN wr row).mono ?_
            rintro e w3 ⟨rfl, hB3⟩
            have own3 := again_below own hB3
            have B3 := hB.trans (hB3.mono hsz)
            have sz3 := Nat.le_trans hsz hB3.size
            unfold noLine
            clear own LN hB hB3 hsz row c0 c1
            by_cases hkc : (k : Int) < cut
            · go_wp2_with fail
              go_roundw
              case rel => exact ⟨k + 1, j, j, L, by omega, by omega, by omega, by go_num, rfl, own3, B3, sz3, hl⟩
              case measure => simp [intOf]; omega
            · go_wp2_with fail
              go_roundw
              case rel => exact ⟨k + 1, j, c, L, by omega, by omega, by omega, by go_num, rfl, own3, B3, sz3, hl⟩
              case measure => simp [intOf]; omega
        · have h7 : 60 < wd.size := by omega
          clear own l' l h6
          go_wp2_with fail
          go_ret
          exact ⟨rfl, hB⟩
      · have h7 : 5 < n := by omega
        clear own l' l n5
        go_wp2_with fail
        go_ret
        exact ⟨rfl, hB⟩
    · obtain rfl : k = len := by omega
      have T1 := text_reads own
      have d1 : ((j : Int) == (j : Int)) = true := by simp
      have d2 : ((c : Int) == (c : Int)) = true := by simp
      obtain ⟨u2, sl2, tv2⟩ := T1.first c hcj
      rcases Nat.eq_zero_or_pos j with e0 | h0
      · subst e0
        have ap := fun ty => append_no_text wr ty aR cR
        have B0 : Below wr.heap.size wr wr := Below.refl _ _
        have T0 : TextV wr (.slice none 0 0) 0 L := ⟨_, _, rfl, Nat.le_refl _, fun i hi => by omega⟩
        have L6 := hL.below (hB.trans (B0.mono hsz))
        have T1' := T1.below B0
        have BB := hB.trans (B0.mono hsz)
        have sz6 := Nat.le_trans hsz B0.size
        go_wp2_with (at_builtin; refine wpList_append_by _ rfl (.tmp 79) (.tmp 80) 23 rfl _ _ rfl rfl _ _ (ap _) ?_)
        refine (sc_run seed hs _ 0 (by omega) L hl.out A wr L6 T0).mono ?_
        rintro e w7 ⟨va, O, C, rfl, said, V, hB7⟩
        have L7 := L6.below hB7
        have U2 := tv2 w7 (T1'.below hB7)
        have B7 := BB.trans (hB7.mono sz6)
        have sz7 := Nat.le_trans sz6 hB7.size
        obtain ⟨aU, cU, rfl, _⟩ := id V
        obtain ⟨u3, sl3, tv3⟩ := V.first c hcj
        have said := hide said
        clear T1' hB7 L6 BB sz6
        go_wp2_with fail
        refine (sc_run seed hs _ c (by omega) L (fun i hi => hl.out i (by omega)) A w7 L7 U2).mono ?_
        rintro e w8 ⟨vb, O', C', rfl, said', V', hB8⟩
        obtain ⟨D, sD⟩ := SaidTo.first 0 c hcj said.out
        have eO := (SaidTo.one c sD said').2
        have U3 := (tv3 w8 (V.below hB8)).congr eO
        have B8 := B7.trans (hB8.mono sz7)
        obtain ⟨aW, cW, rfl, _⟩ := id V'
        clear sD said' eO said hB8 L7 U2 B7
        go_wp2_with fail
        refine (sameTexts_of u3 _ c (by omega) O' w8 U3 V').mono ?_
        rintro e w9 ⟨rfl, m, hw⟩
        have B9 : Below w.heap.size w w9 := by rw [hw]; exact below_drewN B8 m
        clear hw
        go_wp2_with fail
        go_ret
        exact ⟨rfl, B9⟩
      · obtain ⟨g, off', ea, gc⟩ := T1.cells h0
        subst ea
        obtain ⟨i0, hi, hz0, hz1, hz2⟩ := info_parts Tryz.infoStrT
        have N6 : ∀ i u, (tRow L j)[i]? = some u → wr.cell? ((⟨g, off', none⟩ : Addr).add i) = some u := fun i u hu => by
          have hi : i < j := by have := (List.getElem?_eq_some_iff.1 hu).1; rw [tRow_len] at this; exact this
          rw [tRow_at L j i hi] at hu
          rw [add_plain, gc i hi]; exact hu
        have one := tRow_one L j
        have l63 : 0 + j ≤ maxLen := by simp only [maxLen]; omega
        have l64 : (0 + j) * 16 ≤ 140737488355328 := by omega
        have on0 : wr.ownsRow wr.heap.size 9 1 (.slice none 0 0) 0 [] := World.ownsRow_nil _ _ _ _
        have lB := Nat.le_refl wr.heap.size
        clear own gc
        go_wp2_with (at_builtin; refine wpList_append_lies _ rfl (.tmp 79) (.tmp 80) 23 rfl wr.heap.size 9 i0 (.string { data := #[] }) 1 16 Tryz.underlying23 hi hz0 hz1 hz2 rfl (by decide) _ 0 [] rfl on0 ⟨g, off', none⟩ j cR (tRow L j) rfl (by rw [tRow_len, Nat.mul_one]) N6 one h0 l63 l64 lB _ rfl ?_; intro gN capN w6 hown hgrow hat hltN)
        have B6 : Below wr.heap.size wr w6 := again_grown (Below.refl _ _) lB (fun q e => by cases e) hgrow
        rw [Nat.zero_add, List.nil_append] at hown
        have T6 := text_reads hown
        clear hown hgrow hat N6 one
        have L6 := hL.below (hB.trans (B6.mono hsz))
        have T1' := T1.below B6
        have BB := hB.trans (B6.mono hsz)
        have sz6 := Nat.le_trans hsz B6.size
        refine (sc_run seed hs _ j (by omega) L hl.out A w6 L6 T6).mono ?_
        rintro e w7 ⟨va, O, C, rfl, said, V, hB7⟩
        have L7 := L6.below hB7
        have U2 := tv2 w7 (T1'.below hB7)
        have B7 := BB.trans (hB7.mono sz6)
        have sz7 := Nat.le_trans sz6 hB7.size
        obtain ⟨aU, cU, rfl, _⟩ := id V
        obtain ⟨u3, sl3, tv3⟩ := V.first c hcj
        have said := hide said
        clear T1' hB7 L6 BB sz6
        go_wp2_with fail
        refine (sc_run seed hs _ c (by omega) L (fun i hi => hl.out i (by omega)) A w7 L7 U2).mono ?_
        rintro e w8 ⟨vb, O', C', rfl, said', V', hB8⟩
        obtain ⟨D, sD⟩ := SaidTo.first j c hcj said.out
        have eO := (SaidTo.one c sD said').2
        have U3 := (tv3 w8 (V.below hB8)).congr eO
        have B8 := B7.trans (hB8.mono sz7)
        obtain ⟨aW, cW, rfl, _⟩ := id V'
        clear sD said' eO said hB8 L7 U2 B7
        go_wp2_with fail
        refine (sameTexts_of u3 _ c (by omega) O' w8 U3 V').mono ?_
        rintro e w9 ⟨rfl, m, hw⟩
        have B9 : Below w.heap.size w w9 := by rw [hw]; exact below_drewN B8 m
        clear hw
        go_wp2_with fail
        go_ret
        exact ⟨rfl, B9⟩
end Go.Proofs.YtmbfdhekplnoaaaGreatDoor

namespace Go.Proofs.YtmbfdhekplnoaaaGreatDoor
open Go.RowKit

set_option maxRecDepth 100000 in
theorem scriptAgain_many (seed : Nat) (a : Option Addr) (n cap : Nat) (cut : Int) (h : 40 < n) (hm : n ≤ 9223372036854775807) (A : Nat → Addr) (w : World) (hL : ScLaid w A) :
    Calls Tryz.prog 4 #[.int .u64 seed, .slice a n cap, .int .i64 cut] w fun e w' => e = .returned (.bool true) ∧ Below w.heap.size w w' := by
  go_enter Tryz.func4, Tryz.ntmps4
  go_wp2_with fail
  refine (hello_of A w hL).mono ?_
  rintro e w1 ⟨rfl, hB1⟩
  go_wp2_with fail
  go_ret
  exact ⟨rfl, hB1⟩
set_option maxRecDepth 100000 in
theorem scriptAgain_low (seed : Nat) (a : Option Addr) (n cap : Nat) (cut : Int) (h : n ≤ 40) (hc : cut < 0) (A : Nat → Addr) (w : World) (hL : ScLaid w A) :
    Calls Tryz.prog 4 #[.int .u64 seed, .slice a n cap, .int .i64 cut] w fun e w' => e = .returned (.bool true) ∧ Below w.heap.size w w' := by
  go_enter Tryz.func4, Tryz.ntmps4
  go_wp2_with fail
  refine (hello_of A w hL).mono ?_
  rintro e w1 ⟨rfl, hB1⟩
  go_wp2_with fail
  go_ret
  exact ⟨rfl, hB1⟩
set_option maxRecDepth 100000 in
theorem scriptAgain_high (seed : Nat) (a : Option Addr) (n cap : Nat) (cut : Int) (h : n ≤ 40) (h0 : 0 ≤ cut) (hc : (n : Int) < cut) (A : Nat → Addr) (w : World) (hL : ScLaid w A) :
    Calls Tryz.prog 4 #[.int .u64 seed, .slice a n cap, .int .i64 cut] w fun e w' => e = .returned (.bool true) ∧ Below w.heap.size w w' := by
  go_enter Tryz.func4, Tryz.ntmps4
  go_wp2_with fail
  refine (hello_of A w hL).mono ?_
  rintro e w1 ⟨rfl, hB1⟩
  go_wp2_with fail
  go_ret
  exact ⟨rfl, hB1⟩
theorem scriptAgain_any (seed : Nat) (hs : seed < W64) (a : Option Addr) (n cap : Nat) (cut : Int) (A : Nat → Addr) (w : World) (hL : ScLaid w A) (s : IsLns w a n cap) :
    Calls Tryz.prog 4 #[.int .u64 seed, .slice a n cap, .int .i64 cut] w fun e w' => e = .returned (.bool true) ∧ Below w.heap.size w w' := by
  by_cases h : n ≤ 40
  · by_cases h0 : 0 ≤ cut
    · by_cases h1 : cut ≤ n
      · rcases s with rfl | ⟨b, off, rfl, hb, hl, hm, hA⟩
        · exact scriptAgain_walk seed hs a 0 0 0 cap (fun g => absurd g (Nat.lt_irrefl _)) cut h0 h1 A w hL (fun g => absurd g (Nat.lt_irrefl _)) h fun i hi => absurd hi (Nat.not_lt_zero _)
        · exact scriptAgain_walk seed hs _ b off n cap (fun _ => rfl) cut h0 h1 A w hL (fun _ => hb) h hA
      · exact scriptAgain_high seed a n cap cut h h0 (by omega) A w hL
    · exact scriptAgain_low seed a n cap cut h (by omega) A w hL
  · refine scriptAgain_many seed a n cap cut (by omega) ?_ A w hL
    rcases s with rfl | ⟨_, _, _, _, _, _, _⟩ <;> omega
end Go.Proofs.YtmbfdhekplnoaaaGreatDoor
