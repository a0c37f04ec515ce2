/-
  The third package of laws: an error by its number, and with its place.
  The law ScriptReads of package bakehouselaw3, walked, where there are too many lines for a script; all of it.
-/
import Derived.Test.YtmbfdhekplnoaaaGreatDoorErrTellsX
import Derived.Test.YtmbfdhekplnoaaaGreatDoorScNumsX
import Derived.Test.YtmbfdhekplnoaaaGreatDoorScriptReadsWalk
namespace Go.Proofs.YtmbfdhekplnoaaaGreatDoor
open Go.RowKit

set_option maxHeartbeats 400000 in
theorem coded3_of {w : World} {x : Value} {c : Int} (h : Tells w x c (-1)) : Calls Tryz.prog 9 #[x, .int .i64 c] w fun e w' => e = .returned (.bool true) ∧ Below w.heap.size w w' := by
  have H := hide (h w (Below.refl _ _))
  clear h
  go_enter Tryz.func9, Tryz.ntmps9
  go_wp2_with fail
  refine H.out.mono ?_
  rintro e w' ⟨rfl, hB⟩
  go_wp2
  go_ret
  exact ⟨rfl, hB⟩
theorem Laid.ch {w : World} {A : Nat → Addr} (h : Laid w A) : ChLaid w A := ⟨⟨h.v1, h.v2, h.v3, h.v4, h.v5, h.v6, h.v7, h.v8⟩, h.v9⟩
set_option maxHeartbeats 400000 in
theorem faulted3_of {w : World} {x : Value} {c p : Int} (h : Tells w x c p) : Calls Tryz.prog 20 #[x, .agg #[.int .i64 c, .int .i64 p]] w fun e w' => e = .returned (.bool true) ∧ Below w.heap.size w w' := by
  have H := hide (h (w.alloc (.cells #[.int .i64 c, .int .i64 p] 51)) ((Below.refl _ _).alloc (Nat.le_refl _) _))
  clear h
  go_enter Tryz.func20, Tryz.ntmps20
  go_wp2_with fail
  refine H.out.mono ?_
  rintro e w' ⟨rfl, hB0⟩
  have hB : Below w.heap.size w w' := ((Below.refl _ _).alloc (Nat.le_refl _) _).trans (hB0.mono (by simp))
  have c0 : w'.cell? ⟨w.heap.size, 0, none⟩ = some (.int .i64 c) := by rw [hB0.cell (p := ⟨w.heap.size, 0, none⟩) (by simp)]; simp
  have c1 : w'.cell? ⟨w.heap.size, 1, none⟩ = some (.int .i64 p) := by rw [hB0.cell (p := ⟨w.heap.size, 1, none⟩) (by simp)]; simp
  clear hB0
  by_cases hc : c = 0
  · subst hc
    go_wp2
    go_ret
    exact ⟨rfl, hB⟩
  · have t0 : (c == 0) = false := by simp; exact hc
    clear hc
    go_wp2
    go_ret
    exact ⟨rfl, hB⟩
/-- the same where no error is told: the place is not asked for -/
theorem faulted3_nil (w : World) (p : Int) : Calls Tryz.prog 20 #[.nilIface, .agg #[.int .i64 0, .int .i64 p]] w fun e w' => e = .returned (.bool true) ∧ Below w.heap.size w w' := by
  go_enter Tryz.func20, Tryz.ntmps20
  go_wp2_with (go_at_call 28; refine (code_nil _).mono ?_; rintro e w' ⟨rfl, rfl⟩)
  go_ret
  exact ⟨rfl, (Below.refl _ _).alloc (Nat.le_refl _) _⟩
end Go.Proofs.YtmbfdhekplnoaaaGreatDoor

namespace Go.Proofs.YtmbfdhekplnoaaaGreatDoor
open Go.RowKit

set_option maxRecDepth 100000 in
set_option maxHeartbeats 4000000 in
theorem scriptReads_hundred (seed : Nat) (a : Option Addr) (len cap : Nat) (T : Nat → List UInt8) (A : Nat → Addr) (w : World) (hL : Laid w A) (hS : ScLaid w A) (h100 : 100 < len) (h110 : len ≤ 110) (hT : TextV w (.slice a len cap) len T) (hm : ∀ i, i < len → (T i).length ≤ 9223372036854775807) :
    Calls Tryz.prog 3 #[.int .u64 seed, .slice a len cap] w fun e w' => e = .returned (.bool true) ∧ Below w.heap.size w w' := by
  go_enter Tryz.func3, Tryz.ntmps3
  go_wp2_with fail
  refine (hello_of A w hS).mono ?_
  rintro e w1 ⟨rfl, hB1⟩
  go_wp2_with fail
  go_loopw [6, 7] (fun v i wr => ∃ (k : Nat), k ≤ len ∧ i = .int .i64 k ∧ wr.ownsRow w.heap.size 9 1 v k (tRow T k) ∧ Below w.heap.size w wr ∧ w.heap.size ≤ wr.heap.size ∧ Hid (∀ i, i < k → (T i).length ≤ 200)) (fun _ i _ => len - (intOf i).toNat)
  case atStart => exact ⟨0, Nat.zero_le _, rfl, World.ownsRow_nil _ _ _ _, hB1, hB1.size, hide fun i hi => by omega⟩
  case round =>
    obtain ⟨k, hk, rfl, own, hB, hsz, hl⟩ := hrel
    clear hB1
    obtain ⟨aR, cR, rfl⟩ := again_shape own
    have V := hT.below hB
    obtain ⟨a', cap', e, hcap, g⟩ := id V
    cases e
    by_cases hlt : k < len
    · obtain ⟨b, off, rfl, lt, c0⟩ := g k hlt
      have hmk := hm k hlt
      have zs : (bs (T k)).size = (T k).length := bs_size _
      by_cases h1 : (T k).length ≤ 100
      · have hB5 : Below wr.heap.size wr (wr.alloc (.cells #[.string (bs (T k))] 9)) := (Below.refl _ _).alloc (Nat.le_refl _) _
        have ow := again_below own hB5
        have B5 := hB.trans (hB5.mono hsz)
        have lB := Nat.le_trans hsz hB5.size
        have lo := fun q e => (ow.lt q e).1
        obtain ⟨i0, hi, hz0, hz1, hz2⟩ := info_parts Tryz.infoStrT
        have N6 : ∀ j u, [Value.string (bs (T k))][j]? = some u → (wr.alloc (.cells #[.string (bs (T k))] 9)).cell? ((⟨wr.heap.size, 0, none⟩ : Addr).add j) = some u := World.news_of_block (heap_alloc_new wr _)
        have one : ∀ u ∈ [Value.string (bs (T k))], u.oneCell' = true := by simp [Value.oneCell']
        have l63 : k + 1 ≤ maxLen := by simp only [maxLen]; omega
        have l64 : (k + 1) * 16 ≤ 140737488355328 := by omega
        have hl2 : Hid (∀ i, i < k + 1 → (T i).length ≤ 200) := hide fun i hi => by
          rcases Nat.lt_or_eq_of_le (Nat.le_of_lt_succ hi) with z | z
          · exact hl.out i z
          · rw [z]; omega
        have z1 : ((bs (T k)).size : Int) ≤ 100 := by omega
        clear own V g hl hB hB5 hT zs
        go_wp2_with (at_builtin; refine wpList_append_lies _ rfl (.tmp 36) (.tmp 41) 23 rfl w.heap.size 9 i0 (.string { data := #[] }) 1 16 Tryz.underlying23 hi hz0 hz1 hz2 rfl (by decide) _ k (tRow T k) rfl ow ⟨wr.heap.size, 0, none⟩ 1 1 [.string (bs (T k))] rfl rfl N6 one (by decide) l63 l64 lB _ rfl ?_; intro gN capN w6 hown hgrow hat hltN)
        have B6 := again_grown B5 lB lo hgrow
        have sz6 := Nat.le_trans lB hgrow.size
        clear hgrow hat N6 ow B5 lo
        go_roundw
        case rel => exact ⟨k + 1, by omega, by go_num, hown, B6, sz6, hl2⟩
        case measure => simp [intOf]; omega
      · have z1 : 100 < ((bs (T k)).size : Int) := by omega
        clear own V g zs
        go_wp2_with fail
        go_ret
        exact ⟨rfl, hB⟩
    · obtain rfl : k = len := by omega
      have T1 := text_reads own
      have L1 := hS.below hB
      clear own g V
      go_wp2_with fail
      refine (sc_many seed _ k h100 (by omega) T A wr L1 T1).mono ?_
      rintro e w3 ⟨u, ev, O, rfl, hE, VO, hB3⟩
      have B3 := hB.trans (hB3.mono hsz)
      obtain ⟨aU, cU, rfl, _, _⟩ := id VO
      have TE := hE.tells (hL.below B3)
      clear T1 L1 hB hB3 VO hE
      go_wp2_with fail
      refine (coded3_of TE).mono ?_
      rintro e w4 ⟨rfl, hB4⟩
      have B4 := B3.trans (hB4.mono B3.size)
      clear hB4 B3 TE
      go_wp2_with fail
      go_ret
      exact ⟨rfl, B4⟩
set_option maxRecDepth 100000 in
theorem scriptReads_many (seed : Nat) (a : Option Addr) (len cap : Nat) (h : 110 < len) (hm : len ≤ 9223372036854775807) (A : Nat → Addr) (w : World) (hS : ScLaid w A) :
    Calls Tryz.prog 3 #[.int .u64 seed, .slice a len cap] w fun e w' => e = .returned (.bool true) ∧ Below w.heap.size w w' := by
  go_enter Tryz.func3, Tryz.ntmps3
  go_wp2_with fail
  refine (hello_of A w hS).mono ?_
  rintro e w1 ⟨rfl, hB1⟩
  go_wp2_with fail
  go_ret
  exact ⟨rfl, hB1⟩
theorem scriptReads_any (seed : Nat) (hs : seed < W64) (a : Option Addr) (len cap : Nat) (A : Nat → Addr) (w : World) (hL : Laid w A) (hS : ScLaid w A) (s : IsTexts w a len cap) :
    Calls Tryz.prog 3 #[.int .u64 seed, .slice a len cap] w fun e w' => e = .returned (.bool true) ∧ Below w.heap.size w w' := by
  obtain ⟨hm, T, hT, hl⟩ := s
  by_cases h100 : len ≤ 100
  · exact scriptReads_walk seed hs a len cap T A w hS h100 hT hl
  · by_cases h110 : len ≤ 110
    · exact scriptReads_hundred seed a len cap T A w hL hS (by omega) h110 hT hl
    · exact scriptReads_many seed a len cap (by omega) hm A w hS
end Go.Proofs.YtmbfdhekplnoaaaGreatDoor
