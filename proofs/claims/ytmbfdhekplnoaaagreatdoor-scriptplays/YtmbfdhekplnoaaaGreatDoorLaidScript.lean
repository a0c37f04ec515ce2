/-
  What a row that lists package api's ten errors gives a walk on scripts: where they lie, and their texts.
-/
import Derived.Test.YtmbfdhekplnoaaaGreatDoorSent
import Derived.Test.YtmbfdhekplnoaaaGreatDoorHelloOfX
namespace Go.Proofs.YtmbfdhekplnoaaaGreatDoor
open Go.ChangeShapes Go.WideShapes Go.ChangeAt Go.RowKit

namespace Scs
theorem Tryz.gText : Tryz.prog.globalNamed "bakehouse/api.ErrText" = some 1 := by kernel_rfl
theorem Tryz.gTextT : (Tryz.prog.globals[1]?).map (·.type) = some 26 := by kernel_rfl
theorem Tryz.gBound : Tryz.prog.globalNamed "bakehouse/api.ErrBound" = some 0 := by kernel_rfl
theorem Tryz.gBoundT : (Tryz.prog.globals[0]?).map (·.type) = some 26 := by kernel_rfl
theorem Tryz.gShape : Tryz.prog.globalNamed "bakehouse/api.ErrShape" = some 2 := by kernel_rfl
theorem Tryz.gShapeT : (Tryz.prog.globals[2]?).map (·.type) = some 26 := by kernel_rfl
theorem Tryz.gNone : Tryz.prog.globalNamed "bakehouse/api.ErrNone" = some 3 := by kernel_rfl
theorem Tryz.gNoneT : (Tryz.prog.globals[3]?).map (·.type) = some 26 := by kernel_rfl
theorem Tryz.gExist : Tryz.prog.globalNamed "bakehouse/api.ErrExist" = some 4 := by kernel_rfl
theorem Tryz.gExistT : (Tryz.prog.globals[4]?).map (·.type) = some 26 := by kernel_rfl
theorem Tryz.gShort : Tryz.prog.globalNamed "bakehouse/api.ErrShort" = some 5 := by kernel_rfl
theorem Tryz.gShortT : (Tryz.prog.globals[5]?).map (·.type) = some 26 := by kernel_rfl
theorem Tryz.gSmall : Tryz.prog.globalNamed "bakehouse/api.ErrSmall" = some 6 := by kernel_rfl
theorem Tryz.gSmallT : (Tryz.prog.globals[6]?).map (·.type) = some 26 := by kernel_rfl
theorem Tryz.gGone : Tryz.prog.globalNamed "bakehouse/api.ErrGone" = some 7 := by kernel_rfl
theorem Tryz.gGoneT : (Tryz.prog.globals[7]?).map (·.type) = some 26 := by kernel_rfl
theorem Tryz.gTurn : Tryz.prog.globalNamed "bakehouse/api.ErrTurn" = some 8 := by kernel_rfl
theorem Tryz.gTurnT : (Tryz.prog.globals[8]?).map (·.type) = some 26 := by kernel_rfl
theorem Tryz.gOld : Tryz.prog.globalNamed "bakehouse/api.ErrOld" = some 9 := by kernel_rfl
theorem Tryz.gOldT : (Tryz.prog.globals[9]?).map (·.type) = some 26 := by kernel_rfl

def SentsT (W : World) : List (String × List UInt8) → List Addr → Prop
  | [], [] => True
  | (n, d) :: r, a :: xs => ∃ g, Tryz.prog.globalNamed n = some g ∧ W.cell? ⟨g, 0, none⟩ = some (sent a) ∧ W.cell? a = some (.string (bs d)) ∧ SentsT W r xs
  | _, _ => False
theorem bs_of (s : ByteArray) (d : List UInt8) (h : s.data.toList = d) : s = bs d := by
  subst h
  cases s
  simp [bs]
set_option maxRecDepth 100000 in
theorem sentsT_of {W : World} : ∀ (L : List (String × List UInt8)) (ps : List MemPlace),
    (∀ n d, (n, d) ∈ L → ∃ g, Tryz.prog.globalNamed n = some g ∧ (Tryz.prog.globals[g]?).map (·.type) = some 26) →
    DataW.LaidVars Tryz.prog W (L.map fun x => (x.1, errD x.2)) ps →
    (∀ b off, MemPlace.cell b off ∈ ps → (∃ c t, W.heap[b]? = some (.cells c t (0, 0))) ∧ ∀ u v, W.cell? ⟨b, off, none⟩ = some (.iface u v) → Value.okWide Tryz.prog W .any 0 u v) →
    ∃ xs, SentsT W L xs
  | [], _, _, _, _ => ⟨[], trivial⟩
  | (n, d) :: r, ps, hg, h, hrows => by
    obtain ⟨g0, t0, cs0, f0, p0, q0, hg0, ht0, hv0, hd0, hr0, rfl⟩ := h
    obtain ⟨g, hg1, ht1⟩ := hg n d (List.mem_cons_self ..)
    obtain rfl := Option.some.inj (hg1.symm.trans hg0)
    obtain rfl := Option.some.inj (ht1.symm.trans ht0)
    obtain ⟨l0⟩ := cs0
    have ok0 : ∀ u v, l0 = [.iface u v] → Value.okWide Tryz.prog W .any 0 u v := fun u v e => by
      subst e
      exact (hrows g 0 (by simp [MemPlace.row])).2 u v (by simpa using World.var?_cell hg0 hv0 0)
    obtain ⟨a, s, rfl, hc, hs, hz, rfl⟩ := errorString_of_trod Tryz.underlying26 Tryz.rowES Tryz.underlying366 Tryz.underlying385 rfl rfl Tryz.underlying9 Tryz.cellsES Tryz.cellsStr hd0 ok0
    obtain ⟨xs, hS⟩ := sentsT_of r q0 (fun n d h => hg n d (List.mem_cons_of_mem _ h)) hr0 (fun b off hm => hrows b off (List.mem_append_right _ hm))
    exact ⟨a :: xs, g, hg0, by simpa using World.var?_cell hg0 hv0 0, by rw [← bs_of s d hs]; exact hc, hS⟩
def tenT : List (String × List UInt8) := [("bakehouse/api.ErrText", [98, 97, 107, 101, 104, 111, 117, 115, 101, 58, 32, 116, 101, 120, 116]), ("bakehouse/api.ErrBound", [98, 97, 107, 101, 104, 111, 117, 115, 101, 58, 32, 98, 111, 117, 110, 100]), ("bakehouse/api.ErrShape", [98, 97, 107, 101, 104, 111, 117, 115, 101, 58, 32, 115, 104, 97, 112, 101]), ("bakehouse/api.ErrNone", [98, 97, 107, 101, 104, 111, 117, 115, 101, 58, 32, 110, 111, 110, 101]), ("bakehouse/api.ErrExist", [98, 97, 107, 101, 104, 111, 117, 115, 101, 58, 32, 101, 120, 105, 115, 116]), ("bakehouse/api.ErrShort", [98, 97, 107, 101, 104, 111, 117, 115, 101, 58, 32, 115, 104, 111, 114, 116]), ("bakehouse/api.ErrSmall", [98, 97, 107, 101, 104, 111, 117, 115, 101, 58, 32, 115, 109, 97, 108, 108]), ("bakehouse/api.ErrGone", [98, 97, 107, 101, 104, 111, 117, 115, 101, 58, 32, 103, 111, 110, 101]), ("bakehouse/api.ErrTurn", [98, 97, 107, 101, 104, 111, 117, 115, 101, 58, 32, 116, 117, 114, 110]), ("bakehouse/api.ErrOld", [98, 97, 107, 101, 104, 111, 117, 115, 101, 58, 32, 111, 108, 100])]
theorem tenT_globals : ∀ n d, (n, d) ∈ tenT → ∃ g, Tryz.prog.globalNamed n = some g ∧ (Tryz.prog.globals[g]?).map (·.type) = some 26 := by
  intro n d h
  simp only [tenT, List.mem_cons, Prod.mk.injEq, List.not_mem_nil, or_false] at h
  rcases h with ⟨rfl, _⟩ | ⟨rfl, _⟩ | ⟨rfl, _⟩ | ⟨rfl, _⟩ | ⟨rfl, _⟩ | ⟨rfl, _⟩ | ⟨rfl, _⟩ | ⟨rfl, _⟩ | ⟨rfl, _⟩ | ⟨rfl, _⟩
  · exact ⟨_, Tryz.gText, Tryz.gTextT⟩
  · exact ⟨_, Tryz.gBound, Tryz.gBoundT⟩
  · exact ⟨_, Tryz.gShape, Tryz.gShapeT⟩
  · exact ⟨_, Tryz.gNone, Tryz.gNoneT⟩
  · exact ⟨_, Tryz.gExist, Tryz.gExistT⟩
  · exact ⟨_, Tryz.gShort, Tryz.gShortT⟩
  · exact ⟨_, Tryz.gSmall, Tryz.gSmallT⟩
  · exact ⟨_, Tryz.gGone, Tryz.gGoneT⟩
  · exact ⟨_, Tryz.gTurn, Tryz.gTurnT⟩
  · exact ⟨_, Tryz.gOld, Tryz.gOldT⟩
theorem of_texts {W : World} (hT : Tens W) (h : laidMet Tryz.prog (tenT.map fun x => (x.1, errD x.2)) W) : ∃ A, ScLaid W A := by
  obtain ⟨ps, hv, _, hrows⟩ := h
  obtain ⟨xs, hS⟩ := sentsT_of tenT ps tenT_globals hv hrows
  match xs, hS with
  | [a0, a1, a2, a3, a4, a5, a6, a7, a8, a9], hS =>
    obtain ⟨g0, k0, c0, x0, hS⟩ := hS
    obtain ⟨g1, k1, c1, x1, hS⟩ := hS
    obtain ⟨g2, k2, c2, x2, hS⟩ := hS
    obtain ⟨g3, k3, c3, x3, hS⟩ := hS
    obtain ⟨g4, k4, c4, x4, hS⟩ := hS
    obtain ⟨g5, k5, c5, x5, hS⟩ := hS
    obtain ⟨g6, k6, c6, x6, hS⟩ := hS
    obtain ⟨g7, k7, c7, x7, hS⟩ := hS
    obtain ⟨g8, k8, c8, x8, hS⟩ := hS
    obtain ⟨g9, k9, c9, x9, hS⟩ := hS
    obtain rfl := Option.some.inj (Tryz.gText.symm.trans k0)
    obtain rfl := Option.some.inj (Tryz.gBound.symm.trans k1)
    obtain rfl := Option.some.inj (Tryz.gShape.symm.trans k2)
    obtain rfl := Option.some.inj (Tryz.gNone.symm.trans k3)
    obtain rfl := Option.some.inj (Tryz.gExist.symm.trans k4)
    obtain rfl := Option.some.inj (Tryz.gShort.symm.trans k5)
    obtain rfl := Option.some.inj (Tryz.gSmall.symm.trans k6)
    obtain rfl := Option.some.inj (Tryz.gGone.symm.trans k7)
    obtain rfl := Option.some.inj (Tryz.gTurn.symm.trans k8)
    obtain rfl := Option.some.inj (Tryz.gOld.symm.trans k9)
    refine ⟨fun i => [a0, a1, a2, a3, a4, a5, a6, a7, a8, a9].getD i ⟨0, 0, none⟩, c0, c1, c2, c3, c4, c5, c6, c7, c8, c9, fun i hi => ?_, hT⟩
    match i, hi with
    | 0, _ => exact x0
    | 1, _ => exact x1
    | 2, _ => exact x2
    | 3, _ => exact x3
    | 4, _ => exact x4
    | 5, _ => exact x5
    | 6, _ => exact x6
    | 7, _ => exact x7
    | 8, _ => exact x8
    | 9, _ => exact x9
  | [], hS => exact hS.elim
theorem laid_tail {W : World} {n : String} {d : DataW Unit} {r : List (String × DataW Unit)} (h : laidMet Tryz.prog ((n, d) :: r) W) : laidMet Tryz.prog r W := by
  obtain ⟨ps, ⟨_, _, _, _, _, q, _, _, _, _, hq, rfl⟩, hnd, hrows⟩ := h
  exact ⟨q, hq, (List.nodup_append.1 hnd).2.1, fun b off hm => hrows b off (List.mem_append_right _ hm)⟩
theorem vars_front {W : World} : ∀ (l r : List (String × DataW Unit)) (ps : List MemPlace), DataW.LaidVars Tryz.prog W (l ++ r) ps → ∃ q q', DataW.LaidVars Tryz.prog W l q ∧ ps = q ++ q'
  | [], _, ps, _ => ⟨[], ps, rfl, rfl⟩
  | (n, d) :: l, r, ps, h => by
    obtain ⟨g, t, cs, fuel, p, q, h1, h2, h3, h4, h5, rfl⟩ := h
    obtain ⟨a, b, ha, rfl⟩ := vars_front l r q h5
    exact ⟨_, b, ⟨g, t, cs, fuel, p, a, h1, h2, h3, h4, ha, rfl⟩, by simp only [List.append_assoc]⟩
theorem laid_front {W : World} (l r : List (String × DataW Unit)) (h : laidMet Tryz.prog (l ++ r) W) : laidMet Tryz.prog l W := by
  obtain ⟨ps, hv, hnd, hrows⟩ := h
  obtain ⟨q, q', hq, rfl⟩ := vars_front l r ps hv
  exact ⟨q, hq, (List.nodup_append.1 hnd).1, fun b off hm => hrows b off (List.mem_append_left _ hm)⟩
theorem Tryz.gTens : Tryz.prog.globalNamed "internal/strconv.uint64pow10" = some 11 := by kernel_rfl
theorem Tryz.gTensT : (Tryz.prog.globals[11]?).map (·.type) = some 352 := by kernel_rfl
theorem of_tables {W : World} (a b c d : DataW Unit) (h : laidMet Tryz.prog (("math/bits.deBruijn32tab", a) :: ("math/bits.deBruijn64tab", b) :: ("internal/strconv.uint64pow10", Lib.tabData .u64 Lib.pow10Tab) :: ("unicode/utf8.acceptRanges", c) :: ((tenT.map fun x => (x.1, errD x.2)) ++ [("unicode/utf8.first", d)])) W) : Tens W ∧ laidMet Tryz.prog (tenT.map fun x => (x.1, errD x.2)) W := by
  have h2 := laid_tail (laid_tail h)
  exact ⟨Lib.tabIs_of_head Tryz.gTens Tryz.gTensT Tryz.underlying352 Tryz.underlying22 (by kernel_rfl) (by kernel_rfl) h2, laid_front _ _ (laid_tail (laid_tail h2))⟩
theorem of_ten {W : World} (h : laidMetH Tryz.prog [("math/bits.deBruijn32tab", Rows.laid_math_bits_deBruijn32tab), ("math/bits.deBruijn64tab", Rows.laid_math_bits_deBruijn64tab), ("internal/strconv.uint64pow10", Rows.laid_internal_strconv_uint64pow10), ("unicode/utf8.acceptRanges", Rows.laid_unicode_utf8_acceptRanges), ("bakehouse/api.ErrText", Rows.laid_bakehouse_api_ErrText), ("bakehouse/api.ErrBound", Rows.laid_bakehouse_api_ErrBound), ("bakehouse/api.ErrShape", Rows.laid_bakehouse_api_ErrShape), ("bakehouse/api.ErrNone", Rows.laid_bakehouse_api_ErrNone), ("bakehouse/api.ErrExist", Rows.laid_bakehouse_api_ErrExist), ("bakehouse/api.ErrShort", Rows.laid_bakehouse_api_ErrShort), ("bakehouse/api.ErrSmall", Rows.laid_bakehouse_api_ErrSmall), ("bakehouse/api.ErrGone", Rows.laid_bakehouse_api_ErrGone), ("bakehouse/api.ErrTurn", Rows.laid_bakehouse_api_ErrTurn), ("bakehouse/api.ErrOld", Rows.laid_bakehouse_api_ErrOld), ("unicode/utf8.first", Rows.laid_unicode_utf8_first)] W) : ∃ A, ScLaid W A := by
  obtain ⟨hT, h2⟩ := of_tables Rows.laid_math_bits_deBruijn32tab Rows.laid_math_bits_deBruijn64tab Rows.laid_unicode_utf8_acceptRanges Rows.laid_unicode_utf8_first h
  exact of_texts hT h2
end Scs
end Go.Proofs.YtmbfdhekplnoaaaGreatDoor
