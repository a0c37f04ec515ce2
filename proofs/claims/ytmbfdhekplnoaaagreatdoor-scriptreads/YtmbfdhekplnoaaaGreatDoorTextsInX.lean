/-
  A line's first word, plainly: where it is no command's, the answer is that of a text that is none.
  A line's bytes, one after the other: what a walk reads of them.
  A slice of strings that came in: what its reading gives a walk.
-/
import Derived.Test.YtmbfdhekplnoaaaGreatDoorTextOwnX
import Derived.Test.YtmbfdhekplnoaaaGreatDoorLineMathX
import Derived.Test.YtmbfdhekplnoaaaGreatDoorIssueMathX
import Derived.Deep.SlicePairs
namespace Go.Proofs.YtmbfdhekplnoaaaGreatDoor

/-- the first so many bytes up to a blank -/
def wordL : List UInt8 → List UInt8
  | [] => []
  | x :: l => if x = 32 then [] else x :: wordL l
theorem wordL_cut : ∀ (a s : List UInt8), (∀ x, x ∈ a → x ≠ 32) → Blanked s → wordL (a ++ s) = a
  | [], s, _, h => by
    rcases h with rfl | ⟨t, rfl⟩
    · rfl
    · show (if (32 : UInt8) = 32 then [] else _) = []
      rw [if_pos rfl]
  | x :: a, s, k, h => by
    show (if x = 32 then [] else x :: wordL (a ++ s)) = x :: a
    rw [if_neg (k x (List.mem_cons_self ..)), wordL_cut a s (fun z hz => k z (List.mem_cons_of_mem _ hz)) h]
theorem Says.noWord {C C' : Ch} {s o : List UInt8} (h : Says C s o C') (hf : formL (wordL s) = none) : o = errT 1 := by
  rcases h with ⟨wd, ns, hc, rfl, _⟩ | ⟨_, rfl, _⟩
  · obtain ⟨f, e, _⟩ := hc.form
    rw [show wordL (cmdText wd ns) = wd from wordL_cut wd (numText ns) (word_noblank e) (numText_blanked ns), e] at hf
    cases hf
  · rfl
/-- the word so far: the first k bytes have no blank -/
theorem wordL_take : ∀ (s : List UInt8) (k : Nat), k ≤ s.length → (∀ i, i < k → s.getD i 0 ≠ 32) → (k = s.length ∨ s.getD k 0 = 32) → wordL s = s.take k
  | [], k, hk, _, _ => by
    obtain rfl : k = 0 := by simpa using hk
    rfl
  | x :: l, 0, _, _, h => by
    rcases h with h | h
    · simp at h
    · show (if x = 32 then [] else x :: wordL l) = []
      exact if_pos (by simpa using h)
  | x :: l, k + 1, hk, hn, h => by
    show (if x = 32 then [] else x :: wordL l) = x :: l.take k
    rw [if_neg (by simpa using hn 0 (by omega)), wordL_take l k (by simpa using hk) (fun i hi => by simpa using hn (i + 1) (by omega)) (by simpa using h)]
end Go.Proofs.YtmbfdhekplnoaaaGreatDoor

namespace Go.Proofs.YtmbfdhekplnoaaaGreatDoor
open Go.RowKit

theorem take_nextR (s : List UInt8) (q : Nat) (h : q < s.length) : s.take (q + 1) = s.take q ++ [s.getD q 0] := by
  rw [List.take_add_one, List.getElem?_eq_getElem h, List.getD_eq_getElem?_getD, List.getElem?_eq_getElem h]
  rfl
theorem bs_extract (s : List UInt8) (q : Nat) (h : q < s.length) : (bs s).extract q (q + 1) = bs [s.getD q 0] := by
  apply ByteArray.ext
  rw [ByteArray.data_extract]
  unfold bs
  apply Array.ext'
  simp only [Array.toList_extract]
  rw [List.extract_eq_take_drop]
  rw [show q + 1 - q = 1 by omega, List.drop_eq_getElem_cons h, List.getD_eq_getElem?_getD, List.getElem?_eq_getElem h]
  rfl
theorem toList_bs (l : List UInt8) : (bs l).toList = l := by rw [ByteArray.toList_eq]; simp [bs]
theorem slice_one (s : List UInt8) (q : Nat) (h : q < s.length) (w : World) : (Instr.slice 9 (.string (bs s)) (some (.int .i64 q)) (some (.int .i64 ((q : Int) + 1))) none).run Tryz.prog w = .ok (.string (bs [s.getD q 0])) w := by
  have e : (bs s).size = s.length := bs_size s
  rw [run_slice_string w 9 (bs s) .i64 .i64 q ((q : Int) + 1) Tryz.underlying9 (by omega) (by omega) (by rw [e]; omega)]
  rw [show ((q : Int) + 1).toNat = q + 1 by omega, show ((q : Int)).toNat = q by omega, bs_extract s q h]
end Go.Proofs.YtmbfdhekplnoaaaGreatDoor

namespace Go.Proofs.YtmbfdhekplnoaaaGreatDoor
open Go.ChangeShapes Go.WideShapes Go.ChangeAt Go.RowKit

theorem Tryz.cellsStrT : Tryz.prog.cellsOf 9 = 1 := by kernel_rfl
/-- so many strings, none longer than memory is; their room -/
def IsTexts (W : World) (a : Option Addr) (len cap : Nat) : Prop := len ≤ 9223372036854775807 ∧ ∃ T, TextV W (.slice a len cap) len T ∧ ∀ i, i < len → (T i).length ≤ 9223372036854775807
set_option maxRecDepth 100000 in
theorem texts_of {H : Type} {enc : TypeId × Value → H} {W : World} {a : Option Addr} {len cap : Nat} {d : DataW H} {p : List MemPlace}
    (h : DataW.Trod enc Tryz.prog W 0 (fun _ => true) true 23 (.slice a len cap) d p) : IsTexts W a len cap := by
  obtain ⟨fuel, hf⟩ := h
  rcases Deep.open_slice1 Tryz.underlying23 Tryz.cellsStrT hf with ⟨hcs, _⟩ | ⟨x, l, c, m, n, V, D, Pl, hcs, _, hl, hm, hmm, _, hx⟩
  · simp [Value.cells] at hcs
    obtain ⟨rfl, rfl, rfl⟩ := hcs
    exact ⟨Nat.zero_le _, fun _ => [], ⟨_, _, rfl, Nat.le_refl _, fun i hi => by omega⟩, fun i hi => by omega⟩
  · simp [Value.cells] at hcs
    obtain ⟨rfl, rfl, rfl⟩ := hcs
    have hm' : m = cap := by simpa using hmm
    subst hm'
    have mx : maxLen = 9223372036854775807 := rfl
    have each : ∀ i, i < len → ∃ u : ByteArray, W.cell? (x.add i) = some (.string u) ∧ u.size ≤ maxLen := fun i hi => by
      obtain ⟨c0, g0⟩ := hx i (by omega)
      obtain ⟨u0, e0, _, z0⟩ := DataW.trod_string Tryz.underlying9 g0
      have e0' : V i = .string u0 := by simpa using e0
      exact ⟨u0, by rw [← e0']; exact c0, z0⟩
    refine ⟨by omega, fun i => match W.cell? (x.add i) with | some (.string u) => u.toList | _ => [], ⟨_, _, rfl, hl, fun i hi => ?_⟩, fun i hi => ?_⟩
    · obtain ⟨u, c, _⟩ := each i hi
      obtain ⟨b, off, spot⟩ := x
      have hspot : spot = none := by
        obtain ⟨u1, c1, _⟩ := each 0 (by omega)
        simpa [Addr.add] using World.cell?_spot c1
      subst hspot
      simp only [c]
      rw [add_plain] at c
      exact ⟨b, off, rfl, cell_lt c, by rw [bs_toList]; exact c⟩
    · obtain ⟨u, c, z⟩ := each i hi
      simp only [c]
      rw [← bs_size, bs_toList]
      omega
end Go.Proofs.YtmbfdhekplnoaaaGreatDoor
