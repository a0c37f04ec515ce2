/-
  The law ScriptPlays of package bakehouselaw3, walked: for every seed and every slice of lines it returns true.
-/
import Derived.Test.YtmbfdhekplnoaaaGreatDoorRefBakerX
import Derived.Test.YtmbfdhekplnoaaaGreatDoorHelloOfX
import Derived.Test.YtmbfdhekplnoaaaGreatDoorRefAnsOfX
import Derived.Test.YtmbfdhekplnoaaaGreatDoorRefLineNoX
import Derived.Test.YtmbfdhekplnoaaaGreatDoorRefChNew
import Derived.Test.YtmbfdhekplnoaaaGreatDoorLinesIn
namespace Go.Proofs.YtmbfdhekplnoaaaGreatDoor
open Go.RowKit

theorem isCmd_of {wd : ByteArray} {n : Nat} {X : Nat → Int} {f : List UInt8} (hf : formL wd.toList = some f) (hn : n = f.length) (hX : ∀ i, i < n → 0 ≤ X i ∧ X i ≤ mostOf f i) : IsCmd wd.toList (natsOf X n) :=
  ⟨f, hf, by rw [natsOf_len]; exact hn, fun i hi => by
    rw [natsOf_len] at hi
    rw [natsOf_at X n i hi]
    have := hX i hi
    omega⟩
theorem wd_len (wd : ByteArray) : wd.toList.length = wd.size := by rw [← bs_size, bs_toList]
set_option maxRecDepth 100000 in
set_option maxHeartbeats 4000000 in
theorem scriptPlays_walk (seed : Nat) (hs : seed < W64) (b off len cap : Nat) (A : Nat → Addr) (w : World) (hL : ScLaid w A) (hb : b < w.heap.size) (h60 : len ≤ 60) (hA : Lns w b off len) :
    Calls Tryz.prog 5 #[.int .u64 seed, .slice (some ⟨b, off, none⟩) len cap] w fun e w' => e = .returned (.bool true) ∧ Below w.heap.size w w' := by
  go_enter Tryz.func5, Tryz.ntmps5
  go_wp2_with fail
  refine (hello_of A w hL).mono ?_
  rintro e w1 ⟨rfl, hB1⟩
  go_wp2_with fail
  refine (rch_new seed w1).mono ?_
  rintro e w2 ⟨rb, G2, rfl, k2, hG2, hB2⟩
  have S2 : Scr w w2 rb (.slice none 0 0) (.slice none 0 0) 0 0 (fun _ => []) (fun _ => []) (chNew seed) G2 :=
    ⟨k2, ⟨fun k g => Nat.le_trans hB1.size (hG2 k g), hB1.trans (hB2.mono hB1.size), Nat.le_trans hB1.size hB2.size⟩, World.ownsRow_nil _ _ _ _, World.ownsRow_nil _ _ _ _, fun q e => (by cases e), fun q e => (by cases e)⟩
  clear k2 hG2 hB1 hB2
  go_wp2_with fail
  go_loopw [6, 7, 9] (fun v1 v2 i wr => ∃ (k j : Nat) (L O : Nat → List UInt8) (D : Ch) (G : Nat → Prop), k ≤ len ∧ j ≤ k ∧ i = .int .i64 k ∧ Hid (SaidTo (chNew seed) L j O D) ∧ Scr w wr rb v1 v2 j j L O D G ∧ Hid (∀ i, i < j → (L i).length ≤ 200)) (fun _ _ i _ => len - (intOf i).toNat)
  case atStart => exact ⟨0, 0, fun _ => [], fun _ => [], chNew seed, G2, Nat.zero_le _, Nat.le_refl _, rfl, rfl, S2, hide fun i hi => by omega⟩
  case round =>
    obtain ⟨k, j, L, O, D, G, hk, hj, rfl, said, S, hl⟩ := hrel
    clear S2
    obtain ⟨hD, hDf⟩ := SaidTo.ok (chNew_ok seed hs) (chNew_fit seed) j said.out
    obtain ⟨aR, cR, rfl⟩ := row_shape3 S.r1
    obtain ⟨aQ, cQ, rfl⟩ := row_shape3 S.r2
    by_cases hlt : k < len
    · obtain ⟨wd, a, n, cp, X, l⟩ := hA k hlt
      have l' : LnAt wr b (off + k * 2) wd a n cp X := by
        have e : ∀ k, wr.cell? ⟨b, k, none⟩ = w.cell? ⟨b, k, none⟩ := fun k => S.mine.below.cell (p := ⟨b, k, none⟩) hb
        exact ⟨(e _).trans l.c0, (e _).trans l.c1, l.row.below S.mine.below, l.nm, l.sm⟩
      have c0 := l'.c0
      have c1 := l'.c1
      have nm := l.nm
      have sm := l.sm
      by_cases n5 : n ≤ 5
      · by_cases h6 : wd.size ≤ 60
        · have hd : wd.toList.length ≤ 60 := by rw [wd_len]; exact h6
          by_cases hc : ∃ f, formL wd.toList = some f ∧ n = f.length ∧ ∀ i, i < n → 0 ≤ X i ∧ X i ≤ mostOf f i
          · obtain ⟨f, hf, hn, hX⟩ := hc
            have LY := fun x R => lineOf_yes wd a n cp X f hf hn n5 hX hd x R
            have IC := isCmd_of hf hn hX
            have X0 : ∀ i, i < n → 0 ≤ X i := fun i hi => (hX i hi).1
            have tl := cmdText_len wd.toList X n (fun i hi => by have := hX i hi; have := mostOf_top f i; omega) n (Nat.le_refl _)
            clear hf hn hX
            go_wp2_with fail
            refine (LY wr l'.row).mono ?_
            rintro e w3 ⟨rfl, hB3⟩
            have S3 := S.nextB hB3
            have row3 := l'.row.below hB3
            have d0 := line_old hB3 c0
            have d1 := line_old hB3 c1
            have nb : 0 < n → ∀ b' off', a = some ⟨b', off', none⟩ → ¬ G b' := fun h0 b' off' e g => by
              obtain ⟨a', c', e', hr⟩ := l.row
              cases e'
              obtain ⟨b'', o'', e'', lt, _⟩ := hr 0 h0
              rw [e] at e''
              cases e''
              have := S.mine.f b' g
              omega
            have hj2 : 4 * j + 4 ≤ 400 := by omega
            have sl : (cmdText wd.toList (natsOf X n)).length ≤ 200 := by omega
            have SY : ∀ o D', Ans D wd.toList (natsOf X n) o D' → Says D (cmdText wd.toList (natsOf X n)) o D' := fun o D' ha => .inl ⟨wd.toList, natsOf X n, IC, rfl, ha⟩
            have AO := fun w h R => ans_of G rb D hD (4 * j) hj2 hDf wd a n cp X IC X0 nb w h R
            clear S LY hB3 l' l c0 c1 IC X0 tl nb
            generalize hsx : cmdText wd.toList (natsOf X n) = s at *
            clear hsx
            have SY := hide SY
            go_wp2_with fail
            refine (AO w3 S3.ch row3).mono ?_
            rintro e w4 ⟨o, D', G', rfl, ha, h4, M4⟩
            have S4 := S3.moved M4 h4
            have said2 := hide (said.out.more (SY.out o D' ha))
            have hl2 : Hid (∀ i, i < j + 1 → (setT L j s i).length ≤ 200) := hide fun i hi => by
              rcases Nat.lt_or_eq_of_le (Nat.le_of_lt_succ hi) with z | z
              · rw [setT_old L s z]; exact hl.out i z
              · rw [z, setT_at]; exact sl
            have hB5 : Below w4.heap.size w4 (w4.alloc (.cells #[.string (bs s)] 9)) := (Below.refl _ _).alloc (Nat.le_refl _) _
            have S5 := S4.nextB hB5
            have ow := S5.r1
            have lB := S5.mine.size
            obtain ⟨i0, hi, hz0, hz1, hz2⟩ := info_parts Tryz.infoStrT
            have N6 : ∀ j u, [Value.string (bs s)][j]? = some u → (w4.alloc (.cells #[.string (bs s)] 9)).cell? ((⟨w4.heap.size, 0, none⟩ : Addr).add j) = some u := World.news_of_block (heap_alloc_new w4 _)
            have one : ∀ u ∈ [Value.string (bs s)], u.oneCell' = true := by simp [Value.oneCell']
            have l63 : j + 1 ≤ maxLen := by simp only [maxLen]; omega
            have l64 : (j + 1) * 16 ≤ 140737488355328 := by omega
            have one2 : ∀ u ∈ [Value.string (bs o)], u.oneCell' = true := by simp [Value.oneCell']
            clear S3 AO SY said hl row3 d0 d1 hB5 S4 M4 h4 ha
            go_wp2_with (first
              | (at_builtin; refine wpList_append_lies _ rfl (.tmp 64) (.tmp 66) 23 rfl w.heap.size 9 i0 (.string { data := #[] }) 1 16 Tryz.underlying23 hi hz0 hz1 hz2 rfl (by decide) _ j (tRow L j) rfl ow ⟨w4.heap.size, 0, none⟩ 1 1 [.string (bs s)] rfl rfl N6 one (by decide) l63 l64 lB _ rfl ?_; intro gN capN w6 hown hgrow hat hltN; have S6 := S5.grown1 (s := s) hgrow hat hown; have S7 := S6.nextB (w' := w6.alloc (.cells #[.string (bs o)] 9)) ((Below.refl _ _).alloc (Nat.le_refl _) _); have ow2 := S7.r2; have lB2 := S7.mine.size; have N8 : ∀ j u, [Value.string (bs o)][j]? = some u → (w6.alloc (.cells #[.string (bs o)] 9)).cell? ((⟨w6.heap.size, 0, none⟩ : Addr).add j) = some u := World.news_of_block (heap_alloc_new w6 _))
              | (at_builtin; refine wpList_append_lies _ rfl (.tmp 68) (.tmp 70) 23 rfl w.heap.size 9 i0 (.string { data := #[] }) 1 16 Tryz.underlying23 hi hz0 hz1 hz2 rfl (by decide) _ j (tRow O j) rfl ow2 ⟨w6.heap.size, 0, none⟩ 1 1 [.string (bs o)] rfl rfl N8 one2 (by decide) l63 l64 lB2 _ rfl ?_; intro gM capM w8 hown2 hgrow2 hat2 hltM))
            have S8 := S7.grown2 (s := o) hgrow2 hat2 hown2
            clear S5 S6 S7 ow ow2 hown hown2 hgrow hgrow2 hat hat2 N6 N8
            go_roundw
            case rel => exact ⟨k + 1, j + 1, _, _, D', G', by omega, by omega, by go_num, said2, S8, hl2⟩
            case measure => simp [intOf]; omega
          · have LN := fun x R => lineOf_no wd a n cp X n5 hd hc x R
            clear hc
            go_wp2_with fail
            refine (LN wr l'.row).mono ?_
            rintro e w3 ⟨rfl, hB3⟩
            have S3 := S.nextB hB3
            unfold noLine
            clear S LN hB3 l' l c0 c1
            go_wp2_with fail
            go_roundw
            case rel => exact ⟨k + 1, j, L, O, D, G, by omega, by omega, by go_num, said, S3, hl⟩
            case measure => simp [intOf]; omega
        · have hB := S.mine.below
          have h7 : 60 < wd.size := by omega
          clear S l' l h6
          go_wp2_with fail
          go_ret
          exact ⟨rfl, hB⟩
      · have hB := S.mine.below
        have h7 : 5 < n := by omega
        clear S l' l n5
        go_wp2_with fail
        go_ret
        exact ⟨rfl, hB⟩
    · obtain rfl : k = len := by omega
      have T1 := text_reads S.r1
      have T2 := text_reads S.r2
      have hB := S.mine.below
      have L1 := hL.below hB
      go_wp2_with fail
      refine (sc_run seed hs _ j (by omega) L hl.out A wr L1 T1).mono ?_
      rintro e w3 ⟨u, O', C', rfl, said', V, hB3⟩
      obtain ⟨rfl, eO⟩ := SaidTo.one j said.out said'
      have V3 := V.congr fun i hi => (eO i hi).symm
      have T3 := T2.below hB3
      have B3 := hB.trans (hB3.mono S.mine.size)
      clear V said' eO T2 T1 hB S hB3
      obtain ⟨aU, cU, rfl, _⟩ := id V3
      go_wp2_with fail
      refine (sameTexts_of _ _ j (by omega) O w3 V3 T3).mono ?_
      rintro e w4 ⟨rfl, m, hw⟩
      have B4 : Below w.heap.size w w4 := by rw [hw]; exact below_drewN B3 m
      clear hw
      go_wp2_with fail
      go_ret
      exact ⟨rfl, B4⟩
end Go.Proofs.YtmbfdhekplnoaaaGreatDoor
