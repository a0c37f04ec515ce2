/-
  The document's court (bakehouseref2.Court) by its contracts: what is due.
  bakehouseref2.PictureOf by its contract: the weights of the document's stakes.
  The document's chain by its contracts: a cycle's end.
  The document's chain with its parts' places named: what its purse, its stakes and its court do for it.
  The second package of laws: an error by its number.
-/
import Derived.Test.YtaihcceobnfmhaaGreatDoorRefAccuseNo
import Derived.Test.YtaihcceobnfmhaaGreatDoorProgPurseX
import Derived.Below
import Derived.Test.YtaihcceobnfmhaaGreatDoorRefStkSumsX
import Derived.Test.YtaihcceobnfmhaaGreatDoorAidX
import Derived.Test.YtaihcceobnfmhaaGreatDoorProgChainTellsX
import Derived.Laws.AppendOwn
import Derived.Deep.AppendLies
import Derived.Test.YtaihcceobnfmhaaGreatDoorProgPictX
import Derived.Test.YtaihcceobnfmhaaGreatDoorEvEqX
import Derived.Test.YtaihcceobnfmhaaGreatDoorErrTellsX
namespace Go.Proofs.YtaihcceobnfmhaaGreatDoor
open Go.RowKit

theorem crow_drop : ∀ (L : List Cs) (k : Nat), crow (L.drop k) = (crow L).drop (k * 4)
  | [], k => by simp [crow]
  | t :: l, 0 => by simp
  | t :: l, k + 1 => by
    rw [List.drop_succ_cons, crow_drop l k, show (k + 1) * 4 = k * 4 + 4 by omega]
    rfl
theorem crow_one (L : List Cs) : ∀ u ∈ crow L, u.oneCell' = true := by
  induction L with
  | nil => intro u hu; cases hu
  | cons t l ih =>
    intro u hu
    simp only [crow, List.mem_cons] at hu
    rcases hu with rfl | rfl | rfl | rfl | h
    · rfl
    · rfl
    · rfl
    · rfl
    · exact ih u h
theorem nil_nil_run (ty : TypeId) (w : World) : (Builtin.append_ #[104, 104] ty #[.slice none 0 0, .slice none 0 0]).run Tryz.prog w = .ok (.slice none 0 0) w := by
  unfold Builtin.append_
  simp [go_sem]
/-- a copy of what is due -/
theorem due_run (ty : TypeId) (w : World) (x : Ct) (hx : x.done ≤ x.L.length) (hl : x.L.length ≤ 900) (g cap : Nat) (hc : x.L.length ≤ cap) (own : w.ownsRow 0 172 4 (.slice (some ⟨g, 0, none⟩) x.L.length cap) x.L.length (crow x.L)) :
    ∃ d w2, (Builtin.append_ #[104, 104] ty #[.slice none 0 0, .slice (if cap = x.done then some ⟨g, 0, none⟩ else some ⟨g, x.done * 4, none⟩) (x.L.length - x.done) (cap - x.done)]).run Tryz.prog w = .ok d w2 ∧ w2.ownsRow w.heap.size 172 4 d x.due.length (crow x.due) ∧ w.grownBy w2 none := by
  obtain ⟨i, hi, hz, hs, hb⟩ := info_parts Tryz.infoCase
  have hd : x.due.length = x.L.length - x.done := List.length_drop
  have R := fun (a : Addr) (hn : ∀ j u, (crow x.due)[j]? = some u → w.cell? (a.add j) = some u) => run_append_own_at (P := Tryz.prog) w w.heap.size 104 ty 172 i _ 4 32 Tryz.underlying104 hi hz hs hb rfl (by decide) (.slice none 0 0) 0 [] (World.ownsRow_nil w _ _ _) a (x.L.length - x.done) (cap - x.done) (crow x.due) (by rw [crow_len, hd]) hn (crow_one _) (by simp only [maxLen]; omega) (by omega) (Nat.le_refl _)
  by_cases h : cap = x.done
  · have e : x.due = [] := List.eq_nil_of_length_eq_zero (by omega)
    obtain ⟨d, w2, r, o, gr, _⟩ := R ⟨g, 0, none⟩ (fun j u hu => by rw [e] at hu; simp [crow] at hu)
    rw [if_pos h]
    rw [Nat.zero_add, ← hd] at o
    exact ⟨d, w2, r, o, gr⟩
  · obtain ⟨d, w2, r, o, gr, _⟩ := R ⟨g, x.done * 4, none⟩ (fun j u hu => by
      have hadd : (⟨g, x.done * 4, none⟩ : Addr).add j = ⟨g, x.done * 4 + j, none⟩ := by unfold Addr.add; split <;> simp_all
      have hj := (List.getElem?_eq_some_iff.1 hu).1
      rw [crow_len, hd] at hj
      rw [hadd]
      refine (own.cellAt _ (by omega)).trans ?_
      unfold Ct.due at hu
      rw [crow_drop, List.getElem?_drop] at hu
      exact hu)
    rw [if_neg h]
    rw [Nat.zero_add, ← hd] at o
    exact ⟨d, w2, r, o, gr⟩
/-- all is asked for -/
theorem RCtAt.askedAt {w w2 : World} {cb : Nat} {v : Value} {x : Ct} (h : RCtAt w cb v x) (hg : w.grownBy w2 none) : RCtAt (w2.setCell ⟨cb, 1, none⟩ (.int .i64 x.L.length)) cb v x.asked := by
  have hK1 : KeptP (fun _ => False) w w2 := ⟨hg.os, hg.tape, hg.output, hg.size, fun k hk _ => hg.block k hk fun e => by cases e⟩
  have h2 := h.keptP hK1 (fun g => g) (fun _ _ g => g)
  have hK2 : KeptP (fun k => k = cb) w2 (w2.setCell ⟨cb, 1, none⟩ (.int .i64 x.L.length)) := KeptP.setCell (F := fun k => k = cb) (KeptP.refl _ _) (p := ⟨cb, 1, none⟩) rfl _
  refine ⟨?_, World.cell?_setCell_same _ _ _ h2.c1, ?_, ?_, ownsRow_keptP h2.own hK2 (fun k e z => h2.tv (z ▸ e)), h2.tv⟩
  · rw [World.cell?_setCell_other _ _ _ _ (by simp)]; exact h2.c0
  · rw [World.frozen?_setCell]; exact h2.f0
  · rw [World.frozen?_setCell]; exact h2.f1
set_option maxRecDepth 100000 in
set_option maxHeartbeats 2000000 in
theorem rc_due (F : Nat → Prop) (cb : Nat) (x : Ct) (hx : x.Ok) (hl : x.L.length ≤ 900) (w : World) (h : RCt F w cb x) :
    Calls Tryz.prog 177 #[.pointer (some ⟨cb, 0, none⟩)] w fun e w' => ∃ d, e = .returned d ∧ w'.ownsRow w.heap.size 172 4 d x.due.length (crow x.due) ∧ RCt F w' cb x.asked ∧ KeptP F w w' := by
  obtain ⟨v, hF, h⟩ := h
  have hle := hx.le
  have lc := cell_lt h.c0
  have hd : RCtAt w.drew cb v x := h.keptP (G := fun _ => False) (KeptP.refl _ _).drew (fun g => g) (fun _ _ g => g)
  have HF := hide hF
  have fin : ∀ d w2, w2.ownsRow w.heap.size 172 4 d x.due.length (crow x.due) → w.drew.grownBy w2 none → ((w2.setCell ⟨cb, 1, none⟩ (.int .i64 x.L.length)).ownsRow w.heap.size 172 4 d x.due.length (crow x.due) ∧ RCt F (w2.setCell ⟨cb, 1, none⟩ (.int .i64 x.L.length)) cb x.asked ∧ KeptP F w (w2.setCell ⟨cb, 1, none⟩ (.int .i64 x.L.length))) := fun d w2 o g => by
    have hK1 : KeptP (fun _ => False) w.drew w2 := ⟨g.os, g.tape, g.output, g.size, fun k hk _ => g.block k hk fun e => by cases e⟩
    exact ⟨ownsRow_setCell_below o (a := ⟨cb, 1, none⟩) lc _, ⟨v, HF.out, hd.askedAt g⟩, (((KeptP.refl F w).drew).trans hK1 fun _ _ z => z.elim).setCell (p := ⟨cb, 1, none⟩) ((HF.out cb).2 (.inl rfl)) _⟩
  have c0 := h.c0
  have c1 := h.c1
  clear hF
  rcases h.own.2 with ⟨rfl, h0⟩ | ⟨g, cap, cur, rfl, _, _, hcap, hmax, _⟩
  · have e : x.L = [] := List.eq_nil_of_length_eq_zero h0
    have e0 : x.done = 0 := by omega
    have ed : x.due = [] := by unfold Ct.due; rw [e]; simp
    have FN := hide (fin (.slice none 0 0) w.drew (by rw [ed]; exact World.ownsRow_nil _ _ _ _) ⟨rfl, rfl, rfl, Nat.le_refl _, fun _ _ _ => rfl⟩)
    rw [h0] at FN
    have f1 := hd.f1
    rw [e0] at c1
    clear fin hle hd
    go_enter Tryz.func177, Tryz.ntmps177
    go_wp2_with fail
    go_region_law ((refine step_append_by rfl (.tmp 4) (.tmp 13) 104 rfl (.slice none 0 0) (.slice none 0 0) (by rfl) (by rfl) _ _ (nil_nil_run _ _) ?_))
    all_goals
      go_wp2_with fail
      go_ret
      exact ⟨_, rfl, FN.out⟩
  · obtain ⟨d, w2, hr, ho, hg⟩ := due_run 104 w.drew x hle hl g cap hcap hd.own
    have FN := hide (fin d w2 ho hg)
    have d0 : w2.cell? ⟨cb, 0, none⟩ = some (.slice (some ⟨g, 0, none⟩) x.L.length cap) := (hg.cell_far ⟨cb, 0, none⟩ lc (by simp)).trans c0
    have d1 : w2.cell? ⟨cb, 1, none⟩ = some (.int .i64 x.done) := (hg.cell_far ⟨cb, 1, none⟩ lc (by simp)).trans c1
    have f1 : w2.frozen? ⟨cb, 1, none⟩ = false := (hg.frozen_far ⟨cb, 1, none⟩ lc (by simp)).trans hd.f1
    simp only [maxLen] at hmax
    clear fin hd ho hg
    go_enter Tryz.func177, Tryz.ntmps177
    go_wp2_with fail
    go_region_law ((refine step_append_by rfl (.tmp 4) (.tmp 13) 104 rfl (.slice none 0 0) (.slice (if cap = x.done then some ⟨g, 0, none⟩ else some ⟨g, x.done * 4, none⟩) (x.L.length - x.done) (cap - x.done)) (by rfl) (by rfl) d w2 hr ?_))
    all_goals
      go_wp2_with fail
      all_goals
        go_ret
        exact ⟨_, rfl, FN.out⟩
end Go.Proofs.YtaihcceobnfmhaaGreatDoor

namespace Go.Proofs.YtaihcceobnfmhaaGreatDoor
open Go.RowKit

def picRow (S : Sk) : Nat → List Value
  | 0 => []
  | k + 1 => picRow S k ++ [.int .i64 (S.pic k)]
theorem picRow_len (S : Sk) : ∀ k, (picRow S k).length = k
  | 0 => rfl
  | k + 1 => by simp [picRow, picRow_len S k]
theorem picRow_at (S : Sk) (k i : Nat) (h : i < k) : (picRow S k)[i]? = some (.int .i64 (S.pic i)) := by
  induction k with
  | zero => omega
  | succ k ih =>
    rcases Nat.lt_or_eq_of_le (Nat.le_of_lt_succ h) with l | l
    · rw [picRow, List.getElem?_append_left (by rw [picRow_len]; exact l)]; exact ih l
    · subst l; rw [picRow, List.getElem?_append_right (by rw [picRow_len]; omega), picRow_len]; simp
theorem row_shape3 {w : World} {B size n : Nat} {e : TypeId} {v : Value} {xs : List Value} (h : w.ownsRow B e size v n xs) : ∃ a cap, v = .slice a n cap := by
  rcases h.2 with ⟨e, h0⟩ | ⟨g, cap, cur, e, _⟩
  · exact ⟨none, 0, by rw [e, h0]⟩
  · exact ⟨_, _, e⟩
theorem grown_pic {w w' : World} {v : Value} {B : Nat} (h : w.grownBy w' v.ownBlock) (hv : ∀ q, v.ownBlock = some q → B ≤ q) (hB : B ≤ w.heap.size) : Below B w w' :=
  ⟨h.os, h.tape, h.output, h.size, fun k hk => h.block k (by omega) fun e => by have := hv k e.symm; omega⟩
theorem Tryz.infoIntR : (Tryz.prog.info? 3).map (fun i => (i.zero, i.size, i.bytes)) = some (some (.int .i64 0), 1, 8) := by kernel_rfl
set_option maxRecDepth 100000 in
set_option maxHeartbeats 2000000 in
theorem rk_picture (G : Nat → Prop) (rb : Nat) (S : Sk) (hS : S.Ok) (w : World) (h : RSk G w rb S) :
    Calls Tryz.prog 71 #[.pointer (some ⟨rb, 0, none⟩)] w fun e w' => ∃ m cap, e = .returned (.slice (some ⟨m, 0, none⟩) 3 cap) ∧ (w.heap.size ≤ m ∧ m < w'.heap.size) ∧ Ints w' m 0 3 S.pic ∧ Below w.heap.size w w' := by
  obtain ⟨tag, pb, v, L, hG, h⟩ := h
  go_enter Tryz.func71, Tryz.ntmps71
  go_wp2_with fail
  go_loopw [3, 4] (fun r i wr => ∃ k : Nat, k ≤ 3 ∧ i = .int .i64 k ∧ wr.ownsRow w.heap.size 3 1 r k (picRow S k) ∧ Below w.heap.size w wr) (fun _ i _ => 3 - (intOf i).toNat)
  case atStart => exact ⟨0, Nat.zero_le _, rfl, World.ownsRow_nil _ _ _ _, Below.refl _ _⟩
  case round =>
    obtain ⟨k, hk, rfl, own, hB⟩ := hrel
    by_cases hlt : k < 3
    · have h5 := h.keptP (KeptP.of_below (F := fun _ => False) hB) (fun _ g => g.elim)
      have C := rs_staked tag rb pb v L S hS k wr h5
      have eW : S.pic k = wtOf (S.P k).T := rfl
      unfold wtOf at eW
      obtain ⟨i0, hi, hz0, hz1, hz2⟩ := info_parts Tryz.infoIntR
      have hc : ((S.P k).T < 100 ∧ S.pic k = 0) ∨ (100 ≤ (S.P k).T ∧ 1073741824 < (S.P k).T ∧ S.pic k = 1073741824) ∨ (100 ≤ (S.P k).T ∧ (S.P k).T ≤ 1073741824 ∧ S.pic k = (S.P k).T) := by
        rw [eW]
        by_cases g1 : (S.P k).T < 100
        · exact .inl ⟨g1, if_pos g1⟩
        · rw [if_neg g1]
          by_cases g2 : 1073741824 < (S.P k).T
          · exact .inr (.inl ⟨by omega, g2, if_pos g2⟩)
          · exact .inr (.inr ⟨by omega, by omega, if_neg g2⟩)
      have eR : picRow S (k + 1) = picRow S k ++ [.int .i64 (S.pic k)] := rfl
      have szB := hB.size
      obtain ⟨aR, cR, rfl⟩ := row_shape3 own
      have l63 : k + 1 ≤ maxLen := by simp only [maxLen]; omega
      have l64 : (k + 1) * 8 ≤ 140737488355328 := by omega
      clear h h5 eW
      rcases hc with ⟨g1, e⟩ | ⟨g0, g1, e⟩ | ⟨g0, g1, e⟩ <;> rw [e] at eR <;> have ER := hide eR <;> clear e eR
      · have N6 : ∀ j u, [Value.int .i64 0][j]? = some u → (wr.alloc (.cells #[.int .i64 0] 3)).cell? ((⟨wr.heap.size, 0, none⟩ : Addr).add j) = some u := World.news_of_block (heap_alloc_new wr _)
        have ow : (wr.alloc (.cells #[.int .i64 0] 3)).ownsRow w.heap.size 3 1 (.slice aR k cR) k (picRow S k) := own.alloc _
        have one : ∀ u ∈ [Value.int .i64 0], u.oneCell' = true := by simp [Value.oneCell']
        have lB : w.heap.size ≤ (wr.alloc (.cells #[.int .i64 0] 3)).heap.size := by simp; omega
        go_wp2_with fail
        refine C.mono ?_
        rintro e wr ⟨rfl, rfl⟩
        go_wp2_with (at_builtin; refine wpList_append_lies _ rfl (.tmp 17) (.tmp 19) 31 rfl w.heap.size 3 i0 (.int .i64 0) 1 8 Tryz.underlying31 hi hz0 hz1 hz2 rfl (by decide) _ k (picRow S k) rfl ow ⟨wr.heap.size, 0, none⟩ 1 1 [.int .i64 0] rfl rfl N6 one (by decide) l63 l64 lB _ rfl ?_; intro gN capN w6 hown hgrow hat hltN)
        have hB6 : Below w.heap.size w w6 := (hB.alloc szB _).trans (grown_pic hgrow (fun q e => (own.lt q e).1) lB)
        rw [← ER.out] at hown
        clear own hgrow C ow N6
        go_roundw
        case rel => exact ⟨k + 1, by omega, by go_num, hown, hB6⟩
        case measure => simp [intOf]; omega
      · have N6 : ∀ j u, [Value.int .i64 1073741824][j]? = some u → (wr.alloc (.cells #[.int .i64 1073741824] 3)).cell? ((⟨wr.heap.size, 0, none⟩ : Addr).add j) = some u := World.news_of_block (heap_alloc_new wr _)
        have ow : (wr.alloc (.cells #[.int .i64 1073741824] 3)).ownsRow w.heap.size 3 1 (.slice aR k cR) k (picRow S k) := own.alloc _
        have one : ∀ u ∈ [Value.int .i64 1073741824], u.oneCell' = true := by simp [Value.oneCell']
        have lB : w.heap.size ≤ (wr.alloc (.cells #[.int .i64 1073741824] 3)).heap.size := by simp; omega
        go_wp2_with fail
        refine C.mono ?_
        rintro e wr ⟨rfl, rfl⟩
        go_wp2_with (at_builtin; refine wpList_append_lies _ rfl (.tmp 17) (.tmp 19) 31 rfl w.heap.size 3 i0 (.int .i64 0) 1 8 Tryz.underlying31 hi hz0 hz1 hz2 rfl (by decide) _ k (picRow S k) rfl ow ⟨wr.heap.size, 0, none⟩ 1 1 [.int .i64 1073741824] rfl rfl N6 one (by decide) l63 l64 lB _ rfl ?_; intro gN capN w6 hown hgrow hat hltN)
        have hB6 : Below w.heap.size w w6 := (hB.alloc szB _).trans (grown_pic hgrow (fun q e => (own.lt q e).1) lB)
        rw [← ER.out] at hown
        clear own hgrow C ow N6
        go_roundw
        case rel => exact ⟨k + 1, by omega, by go_num, hown, hB6⟩
        case measure => simp [intOf]; omega
      · have N6 : ∀ j u, [Value.int .i64 (S.P k).T][j]? = some u → (wr.alloc (.cells #[.int .i64 (S.P k).T] 3)).cell? ((⟨wr.heap.size, 0, none⟩ : Addr).add j) = some u := World.news_of_block (heap_alloc_new wr _)
        have ow : (wr.alloc (.cells #[.int .i64 (S.P k).T] 3)).ownsRow w.heap.size 3 1 (.slice aR k cR) k (picRow S k) := own.alloc _
        have one : ∀ u ∈ [Value.int .i64 (S.P k).T], u.oneCell' = true := by simp [Value.oneCell']
        have lB : w.heap.size ≤ (wr.alloc (.cells #[.int .i64 (S.P k).T] 3)).heap.size := by simp; omega
        go_wp2_with fail
        refine C.mono ?_
        rintro e wr ⟨rfl, rfl⟩
        go_wp2_with (at_builtin; refine wpList_append_lies _ rfl (.tmp 17) (.tmp 19) 31 rfl w.heap.size 3 i0 (.int .i64 0) 1 8 Tryz.underlying31 hi hz0 hz1 hz2 rfl (by decide) _ k (picRow S k) rfl ow ⟨wr.heap.size, 0, none⟩ 1 1 [.int .i64 (S.P k).T] rfl rfl N6 one (by decide) l63 l64 lB _ rfl ?_; intro gN capN w6 hown hgrow hat hltN)
        have hB6 : Below w.heap.size w w6 := (hB.alloc szB _).trans (grown_pic hgrow (fun q e => (own.lt q e).1) lB)
        rw [← ER.out] at hown
        clear own hgrow C ow N6
        go_roundw
        case rel => exact ⟨k + 1, by omega, by go_num, hown, hB6⟩
        case measure => simp [intOf]; omega
    · obtain rfl : k = 3 := by omega
      rcases own.2 with ⟨_, h0⟩ | ⟨m, cap', cur, e, hb, _, hcap, hmax, _⟩
      · omega
      · cases e
        have lt := (own.lt m rfl).2
        have I : Ints wr m 0 3 S.pic := fun i hi => by
          rw [Nat.zero_add]
          exact (own.cellAt i (by omega)).trans (picRow_at S 3 i hi)
        clear own
        go_wp2_with fail
        go_ret
        exact ⟨m, _, rfl, ⟨hb, lt⟩, I, hB⟩
end Go.Proofs.YtaihcceobnfmhaaGreatDoor

namespace Go.Proofs.YtaihcceobnfmhaaGreatDoor
open Go.RowKit

theorem retag_same (tag : Nat → Nat) (t : Nat) : retag tag t (fun k => tag k = t) = tag := by
  funext k
  by_cases e : tag k = t
  · have r : retag tag t (fun k => tag k = t) k = t := retag_is e
    rw [r]; exact e.symm
  · exact retag_not e e
theorem tmod_even (n : Int) : n.tmod 2 = 0 ↔ n % 2 = 0 := by rw [← Int.dvd_iff_tmod_eq_zero, Int.dvd_iff_emod_eq_zero]
/-- a step of the stakes of a chain, of its purse, its tags as they were -/
theorem RChAt.stakes0 {tag : Nat → Nat} {w w' : World} {cb pb pq sb kb : Nat} {v : Value} {M : List (Nat × Nat)} {C : Ch} {x : Sk} (h : RChAt tag w cb pb pq sb kb v M C) (hs : RSk (fun k => tag k = 3) w' sb x) (hM : Moved (fun k => tag k = 3) (fun k => tag k = 3) w w') : RChAt tag w' cb pb pq sb kb v M { C with s := x } := by
  have g := h.stakes hs hM
  rw [retag_same] at g
  exact g
theorem RChAt.court0 {tag : Nat → Nat} {w w' : World} {cb pb pq sb kb : Nat} {v : Value} {M : List (Nat × Nat)} {C : Ch} {x : Ct} (h : RChAt tag w cb pb pq sb kb v M C) (hs : RCt (fun k => tag k = 4) w' kb x) (hK : KeptP (fun k => tag k = 4) w w') : RChAt tag w' cb pb pq sb kb v M { C with c := x } := by
  have g := h.court hs ⟨hK, fun _ _ g => g⟩
  rw [retag_same] at g
  exact g
theorem moved_of_drew {F G : Nat → Prop} {w w' : World} (h : Moved F G w.drew w') : Moved F G w w' := ⟨⟨h.kept.os, h.kept.tape, h.kept.output, h.kept.size, h.kept.block⟩, h.old⟩
theorem kept_of_drew {X : List Nat} {w w' : World} (h : Kept X w.drew w') : Kept X w w' := ⟨h.os, h.tape, h.output, h.size, h.block⟩
theorem wrap_end (x : Int) (h0 : -9223372036854775808 ≤ x) (h1 : x ≤ 9223372036854775807) : IntKind.i64.wrap x = x := by rw [IntKind.wrap_i64]; omega
theorem below_drew_end {w w' : World} (h : Below w.drew.heap.size w.drew w') : Below w.heap.size w w' := ⟨h.os, h.tape, h.output, h.size, h.block⟩
theorem Tryz.infoPics : (Tryz.prog.info? 31).map (fun i => (i.zero, i.size, i.bytes)) = some (some (.slice none 0 0), 1, 24) := by kernel_rfl
/-- the pictures' own slot behind an append -/
theorem RChAt.slot7 {tag : Nat → Nat} {w w2 : World} {cb pb pq sb kb : Nat} {v : Value} {M : List (Nat × Nat)} {C : Ch} {o : Obj} (h : RChAt tag w cb pb pq sb kb v M C) (hg : (w.alloc o).grownBy w2 v.ownBlock) : w2.cell? ⟨cb, 7, none⟩ = some v ∧ w2.frozen? ⟨cb, 7, none⟩ = false := by
  have l : cb < w.heap.size := cell_lt h.c7
  have hB : Below w.heap.size w (w.alloc o) := (Below.refl _ _).alloc (Nat.le_refl _) _
  have b : w2.heap[cb]? = (w.alloc o).heap[cb]? := hg.block cb (Nat.lt_of_lt_of_le l hB.size) (fun e => by have := h.tv cb e.symm; rw [h.tc] at this; omega)
  refine ⟨?_, ?_⟩
  · rw [World.cell?_of_block (w := w.alloc o) (a := ⟨cb, 7, none⟩) b]; exact was_cell hB h.c7
  · rw [World.frozen?_of_block (w := w.alloc o) (a := ⟨cb, 7, none⟩) b, hB.frozen (p := ⟨cb, 7, none⟩) l]; exact h.f 7
/-- a slice of cases -/
theorem case_row {w : World} {B : Nat} {d : Value} {L : List Cs} (h : w.ownsRow B 172 4 d L.length (crow L)) : ∃ a cap, d = .slice a L.length cap ∧ ∀ i t, L[i]? = some t → ∃ x, a = some ⟨x, 0, none⟩ ∧ B ≤ x ∧ w.cell? ⟨x, i * 4, none⟩ = some (.int .i64 t.1) ∧ w.cell? ⟨x, i * 4 + 1, none⟩ = some (.int .i64 t.2.1) ∧ w.cell? ⟨x, i * 4 + 2, none⟩ = some (.int .i64 t.2.2.1) ∧ w.cell? ⟨x, i * 4 + 3, none⟩ = some (.int .i64 t.2.2.2) := by
  rcases h.2 with ⟨e, h0⟩ | ⟨x, cap, cur, e, hb, _⟩
  · refine ⟨none, 0, by rw [e, h0], fun i t hk => ?_⟩
    have := (List.getElem?_eq_some_iff.1 hk).1
    omega
  · refine ⟨_, cap, e, fun i t hk => ⟨x, rfl, hb, ?_⟩⟩
    have hi := (List.getElem?_eq_some_iff.1 hk).1
    rw [e] at h
    obtain ⟨a0, a1, a2, a3⟩ := crow_at L i t hk
    exact ⟨(h.cellAt _ (by omega)).trans a0, (h.cellAt _ (by omega)).trans a1, (h.cellAt _ (by omega)).trans a2, (h.cellAt _ (by omega)).trans a3⟩
theorem pic_end {F : Nat → Prop} {tag : Nat → Nat} {w w1 w4 wx w6 : World} {cb pb pq sb kb : Nat} {v : Value} {M : List (Nat × Nat)} {E : Ch} (hF : ∀ k, F k ↔ tag k ≠ 0) (K1 : KeptP F w w1) (K4 : KeptP F w1 w4)
    (g4 : RChAt tag w4 cb pb pq sb kb v M { E with cyc := E.cyc + 1, bon := bonusV E.bon E.ratio }) {m : Nat × Nat} {g n cap : Nat} (hm : w4.heap.size ≤ m.1 ∨ m ∈ M) (hB : Below w4.heap.size w4 wx) (hI : Ints wx m.1 0 3 E.nextPic) (hn : n = E.pics.length + 1)
    (hown : w6.ownsRow 0 31 1 (.slice (some ⟨g, 0, none⟩) n cap) n (mrow M ++ [.slice (some ⟨m.1, 0, none⟩) 3 m.2])) (hgrow : wx.grownBy w6 v.ownBlock) (hat : v.ownBlock = some g ∨ g = wx.heap.size) (hg : g < w6.heap.size) :
    ∃ F', RCh F' (w6.setCell ⟨cb, 7, none⟩ (.slice (some ⟨g, 0, none⟩) n cap)) cb E.turned ∧ Moved F F' w (w6.setCell ⟨cb, 7, none⟩ (.slice (some ⟨g, 0, none⟩) n cap)) := by
  obtain ⟨tag', gF, hold, hK⟩ := g4.pictured hm hB hI hn hown hgrow (hat.imp (fun e => e) (fun e => by omega)) hg
  refine ⟨fun k => tag' k ≠ 0, ⟨tag', pb, pq, sb, kb, _, _, fun _ => Iff.rfl, gF⟩, (K1.trans K4 (fun _ _ g => g)).trans hK (fun k _ e => (hF k).2 e), fun k hk g => (hF k).2 (hold k ?_ g)⟩
  have := K1.size
  have := K4.size
  omega
set_option maxRecDepth 100000 in
set_option maxHeartbeats 4000000 in
theorem ends_as (cb : Nat) (C : Ch) (hC : C.Ok) (hk : C.s.K.length ≤ 900) (hl : C.c.L.length ≤ 900) (hy : C.cyc ≤ 900) : EndsAs cb C := by
  intro F w h
  obtain ⟨tag, pb, pq, sb, kb, v, M, hF, g0⟩ := h
  have c2 := g0.c2
  have D := rc_due (fun k => tag k = 4) kb C.c hC.c hl w g0.c
  have dl : C.c.due.length ≤ 900 := by unfold Ct.due; rw [List.length_drop]; omega
  go_enter Tryz.func136, Tryz.ntmps136
  go_wp2_with fail
  refine D.mono ?_
  rintro e w1 ⟨d, rfl, ow, hc1, hK1⟩
  have g1 := g0.court0 hc1 hK1
  have K1 : KeptP F w w1 := hK1.mono fun k _ e => (hF k).2 (by rw [e]; decide)
  have nx : Hid (∀ x, w.heap.size ≤ x → ¬ F x) := fun x hx fx => by have := g0.lt x ((hF x).1 fx); omega
  obtain ⟨a, cap, rfl, hrow⟩ := case_row ow
  clear hc1 hK1 g0 c2 D ow
  go_wp2_with fail
  go_loopw [3] (fun i wr => ∃ j : Nat, j ≤ C.c.due.length ∧ i = .int .i64 j ∧ RChAt tag wr cb pb pq sb kb v M (Ch.judge { C with c := C.c.asked } (C.c.due.take j)) ∧ KeptP F w1 wr) (fun i _ => C.c.due.length - (intOf i).toNat)
  case atStart => exact ⟨0, by omega, rfl, g1, KeptP.refl _ _⟩
  case round =>
    obtain ⟨j, hj, rfl, gr, Kr⟩ := hrel
    by_cases hlt : j < C.c.due.length
    · obtain ⟨t, ht⟩ : ∃ t, C.c.due[j]? = some t := ⟨_, List.getElem?_eq_getElem hlt⟩
      obtain ⟨x, rfl, hx, r0, r1, r2, r3⟩ := hrow j t ht
      have fx := nx.out x hx
      have s0 := Kr.old r0 fx
      have s1 := Kr.old r1 fx
      have s2 := Kr.old r2 fx
      have s3 := Kr.old r3 fx
      have TS := hide (take_snoc ht)
      have JE := hide (Ch.judge_snoc { C with c := C.c.asked } (C.c.due.take j) t)
      have hO : Own t.1 := hC.due_own t (List.mem_of_getElem? ht)
      have oj := (Ch.Ok.judge (C.c.due.take j) hC.asked (fun u hu => hC.due_own u (List.mem_of_mem_take hu))).1
      have kj := (Ch.judge_K (C.c.due.take j) { C with c := C.c.asked })
      clear hrow r0 r1 r2 r3
      generalize Ch.judge { C with c := C.c.asked } (C.c.due.take j) = E at *
      have c1 := gr.c1
      have c0 := gr.c0
      go_upto_if 29 with fail
      go_cut [4] from 16 to 71 (fun pv wx => pv = .int .i64 (pct t.2.2.2) ∧ wx = wr)
      case first =>
        by_cases hp : t.2.2.2 % 2 = 0
        · have e1 : Hid (pct t.2.2.2 = 5) := if_pos hp
          have t1 : (t.2.2.2 % 2 == 0) = true := by simp [hp]
          have t2 : (t.2.2.2.tmod 2 == 0) = true := by rw [beq_iff_eq]; exact (tmod_even _).2 hp
          clear hp
          go_wp2_with fail
          go_meet
          case rel => exact ⟨by rw [e1.out], rfl⟩
        · have e1 : Hid (pct t.2.2.2 = 50) := if_neg hp
          have t1 : (t.2.2.2 % 2 == 0) = false := by simp [hp]
          have t2 : (t.2.2.2.tmod 2 == 0) = false := by rw [beq_eq_false_iff_ne]; exact fun e => hp ((tmod_even _).1 e)
          clear hp
          go_wp2_with fail
          go_meet
          case rel => exact ⟨by rw [e1.out], rfl⟩
      case rest =>
        obtain ⟨rfl, rfl⟩ := hcut
        have pb2 := pct_bd t.2.2.2
        have lb := oj.lost_bd t
        have EQ : Hid (E.s.slashN t.2.1 t.2.2.1 (pct t.2.2.2) = E.lost t) := rfl
        have kl : E.s.K.length ≤ 1000 := by rw [kj]; exact Nat.le_trans hk (by omega)
        clear kj
        go_wp2_with fail
        go_region_held3 (fun w' => w'.cell? ⟨cb, 1, none⟩ = some (.pointer (some ⟨sb, 0, none⟩)) ∧ w'.cell? ⟨x, j * 4 + 1, none⟩ = some (.int .i64 t.2.1) ∧ w'.cell? ⟨x, j * 4 + 2, none⟩ = some (.int .i64 t.2.2.1)) (exact ⟨by assumption, by assumption, by assumption⟩)
          ((go_at_call 178; refine (rs_slash (fun k => tag k = 3) sb E.s oj.s kl t.2.1 t.2.2.1 (pct t.2.2.2) _ (by first | exact gr.s | exact gr.s.drewN _)).mono ?_; rintro e w2 ⟨rfl, hs2, M2⟩; have M2' : Moved (fun k => tag k = 3) (fun k => tag k = 3) wc w2 := (by first | exact M2 | exact moved_of_drew M2); have g2 := gr.stakes0 hs2 M2'; have d1 := g2.c1; have d0 := g2.c0; have K2 : KeptP F w1 w2 := Kr.trans M2'.kept (fun k _ e => (hF k).2 (by rw [e]; decide)); have u0 : w2.cell? ⟨x, j * 4, none⟩ = some (.int .i64 t.1) := M2'.kept.old s0 (fun e => fx ((hF x).2 (by rw [e]; decide))); have u1 : w2.cell? ⟨x, j * 4 + 1, none⟩ = some (.int .i64 t.2.1) := M2'.kept.old s1 (fun e => fx ((hF x).2 (by rw [e]; decide))); have u2 : w2.cell? ⟨x, j * 4 + 2, none⟩ = some (.int .i64 t.2.2.1) := M2'.kept.old s2 (fun e => fx ((hF x).2 (by rw [e]; decide))); rw [EQ.out]))
        obtain ⟨l0, _, l2⟩ := lb
        have q0 : 0 ≤ E.lost t / 7 := by omega
        have q1 : E.lost t / 7 ≤ E.lost t := by omega
        have IN := rp_in pb pq E.p oj.p t.1 (E.lost t / 7) w2 g2.p
        have ok3 := oj.p.in' t.1 (E.lost t / 7)
        clear hs2 M2 s0 s1 s2 s3 EQ c0 c1 gr Kr
        have WQ : Hid (IntKind.i64.wrap ((E.lost t).tdiv 7) = E.lost t / 7) := by rw [Int.tdiv_eq_ediv_of_nonneg l0]; exact wrap_end _ (by omega) (by omega)
        generalize hlo : E.lost t = lo at *
        have HL := hide hlo
        clear hlo
        go_wp2_with fail
        go_region_held3 (fun w' => w'.cell? ⟨cb, 0, none⟩ = some (.pointer (some ⟨pb, 0, none⟩)) ∧ w'.cell? ⟨x, j * 4, none⟩ = some (.int .i64 t.1)) (exact ⟨by assumption, by assumption⟩)
          ((go_at_call 125; refine (rp_in pb pq E.p oj.p t.1 _ _ (by first | exact g2.p | exact (g2.drewN 1).p)).mono ?_; rintro e w3 ⟨rfl, hp3, hK3⟩; rw [WQ.out] at hp3; have hK3' : Kept [pb, pq] w2 w3 := (by first | exact hK3 | exact kept_of_drew hK3); have g3 := g2.purse hp3 hK3'; have e0 := g3.c0; have K3 : KeptP F w1 w3 := K2.trans (g2.movedP hF hK3').kept (fun _ _ g => g); have u3 : w3.cell? ⟨x, j * 4, none⟩ = some (.int .i64 t.1) := (g2.movedP hF hK3').kept.old u0 fx))
        have BU := rp_burn pb pq _ ok3 (lo - lo / 7) w3 g3.p
        have HE := hide oj
        clear hp3 hK3 hK3' g2 d0 d1 u0 u1 u2 u3 IN K2 ok3 oj
        go_wp2_with fail
        refine BU.mono ?_
        rintro e w4 ⟨rfl, hp4, hK4⟩
        have g4 := g3.purse hp4 hK4
        have K4 : KeptP F w1 w4 := K3.trans (g3.movedP hF hK4).kept (fun _ _ g => g)
        clear BU hp4 hK4 g3 K3 e0
        go_wp2_with fail
        go_roundw
        case rel =>
          refine ⟨j + 1, by omega, by go_num, ?_, K4⟩
          rw [TS.out, JE.out]
          rw [← HL.out] at g4
          exact g4
        case measure => simp [intOf]; omega
    · obtain rfl : j = C.c.due.length := by omega
      rw [List.take_length] at gr
      have oj := (Ch.Ok.judge C.c.due hC.asked (fun u hu => hC.due_own u hu)).1
      have js := hide (Ch.judge_same C.c.due { C with c := C.c.asked })
      have ED : Hid (C.ended = Ch.turned (Ch.judge { C with c := C.c.asked } C.c.due)) := rfl
      generalize Ch.judge { C with c := C.c.asked } C.c.due = E at *
      have c6 := gr.c6
      have f6 := gr.f 6
      clear hlt hj hrow g1
      have hR : RCh F wr cb E := ⟨tag, pb, pq, sb, kb, v, M, hF, gr⟩
      go_upto_region 10 with fail
      go_cut [79] from 72 to 81 (fun _ wx => RChAt tag wx cb pb pq sb kb v M { E with bon := bonusV E.bon E.ratio } ∧ KeptP F w1 wx)
      case first =>
        go_region_with (first
            | (go_at_call 133; refine (rch_ratio F cb E oj _ (by first | exact hR | exact hR.drewN _)).mono ?_; rintro e w2 ⟨rfl, hB2⟩; have B2 : Below wr.heap.size wr w2 := (by first | exact hB2 | exact below_drew_end hB2); have g2 := gr.nextB B2; have d6 := g2.c6; have e6 := g2.f 6)
            | (go_at_call 180; refine (ref_bonus E.bon E.ratio oj.rateOk _).mono ?_; rintro e w3 ⟨rfl, hw⟩; subst hw))
        all_goals
          go_wp2_with fail
          go_meet
        all_goals exact ⟨g2.num E.cyc E.lev (bonusV E.bon E.ratio) 6 (bonusV E.bon E.ratio) (.inr (.inr ⟨rfl, rfl, rfl, rfl⟩)), (Kr.trans (KeptP.of_below (F := fun _ => False) B2) (fun _ _ g => g.elim)).setCell (p := ⟨cb, 6, none⟩) ((hF cb).2 (by rw [g2.tc]; decide)) _⟩
      case rest =>
        obtain ⟨g3, K3⟩ := hcut
        clear gr Kr hR c6 f6
        have c4 := g3.c4
        have f4 := g3.f 4
        have c1 := g3.c1
        have cy9 : E.cyc ≤ 900 := by rw [js.out.2.2.1]; exact hy
        go_wp2_with fail
        have g4 := g3.num (E.cyc + 1) E.lev (bonusV E.bon E.ratio) 4 ((E.cyc : Int) + 1) (.inl ⟨rfl, by simp, rfl, rfl⟩)
        have K4 := K3.setCell (p := ⟨cb, 4, none⟩) ((hF cb).2 (by rw [g3.tc]; decide)) (.int .i64 ((E.cyc : Int) + 1))
        refine (rk_picture (fun k => tag k = 3) sb E.s oj.s _ g4.s).mono ?_
        rintro e w5 ⟨m, mcap, rfl, ⟨hm5, hm6⟩, hI, hB5⟩
        have pw := oj.s.picW
        clear g3 K3 c4 f4 c1
        generalize wc.setCell ⟨cb, 4, none⟩ (.int .i64 ((E.cyc : Int) + 1)) = w4 at *
        go_wp2_with fail
        go_loopw [8, 9] (fun hv i wx => ∃ j : Nat, j ≤ 3 ∧ i = .int .i64 j ∧ hv = .bool (heavyTo E.s.pic j) ∧ wx = w5) (fun _ i _ => 3 - (intOf i).toNat)
        case atStart => exact ⟨0, by omega, rfl, rfl, rfl⟩
        case round =>
          obtain ⟨j, hj, rfl, rfl, hw⟩ := hrel
          obtain rfl := hw.symm
          by_cases hlt : j < 3
          · have cj := hI j hlt
            rw [Nat.zero_add] at cj
            by_cases hp : 0 < E.s.pic j
            · have hs : heavyTo E.s.pic (j + 1) = true := by rw [heavyTo_succ]; simp [hp]
              have HS := hide hs
              clear hs
              go_wp2_with fail
              go_roundw
              case rel => exact ⟨j + 1, by omega, by go_num, by rw [HS.out], by first | rfl | trivial⟩
              case measure => simp [intOf]; omega
            · have hs : heavyTo E.s.pic (j + 1) = heavyTo E.s.pic j := by rw [heavyTo_succ]; simp [hp]
              have HS := hide hs
              clear hs
              go_wp2_with fail
              go_roundw
              case rel => exact ⟨j + 1, by omega, by go_num, by rw [HS.out], by first | rfl | trivial⟩
              case measure => simp [intOf]; omega
          · obtain rfl : 3 = j := by omega
            rw [heavy_iff pw]
            clear hlt hj
            obtain ⟨i0, hi, hz0, hz1, hz2⟩ := info_parts Tryz.infoPics
            have g5 := g4.nextB hB5
            have hlen := oj.len
            have l63 : E.pics.length + 1 ≤ maxLen := by simp only [maxLen]; omega
            have l64 : (E.pics.length + 1) * 24 ≤ 140737488355328 := by omega
            by_cases hz : sumTo E.s.pic 3 ≠ 0
            · have hd : decide (sumTo E.s.pic 3 ≠ 0) = true := by simp [hz]
              have NP : Hid (E.nextPic = E.s.pic) := if_pos hz
              have c7 := g5.c7
              have ow : (w5.alloc (.cells #[.slice (some ⟨m, 0, none⟩) 3 mcap] 31)).ownsRow 0 31 1 v E.pics.length (mrow M) := g5.own.alloc _
              have N6 : ∀ j u, [Value.slice (some ⟨m, 0, none⟩) 3 mcap][j]? = some u → (w5.alloc (.cells #[.slice (some ⟨m, 0, none⟩) 3 mcap] 31)).cell? ((⟨w5.heap.size, 0, none⟩ : Addr).add j) = some u := World.news_of_block (heap_alloc_new w5 _)
              have one : ∀ u ∈ [Value.slice (some ⟨m, 0, none⟩) 3 mcap], u.oneCell' = true := by simp [Value.oneCell']
              rw [hd]
              clear hz hd
              go_wp2_with (at_builtin; refine wpList_append_lies _ rfl (.tmp 122) (.tmp 124) 60 rfl 0 31 i0 (.slice none 0 0) 1 24 Tryz.underlying60 hi hz0 hz1 hz2 rfl (by decide) v E.pics.length (mrow M) rfl ow ⟨w5.heap.size, 0, none⟩ 1 1 [.slice (some ⟨m, 0, none⟩) 3 mcap] rfl rfl N6 one (by decide) l63 l64 (Nat.zero_le _) _ rfl ?_; intro gN capN w6 hown hgrow hat hltN; obtain ⟨d7, e7⟩ := g5.slot7 hgrow)
              rw [hlen] at hown
              go_end0
              have hBx : Below w4.heap.size w4 (w5.alloc (.cells #[.slice (some ⟨m, 0, none⟩) 3 mcap] 31)) := hB5.alloc hB5.size _
              have hIx : Ints (w5.alloc (.cells #[.slice (some ⟨m, 0, none⟩) 3 mcap] 31)) m 0 3 E.nextPic := by rw [NP.out]; exact fun i hi => was_cell ((Below.refl _ _).alloc (Nat.le_refl _) _) (hI i hi)
              refine ⟨rfl, ?_⟩
              rw [ED.out]
              exact pic_end hF K1 K4 g4 (m := (m, mcap)) (.inl hm5) hBx hIx (by rw [hlen]) hown hgrow hat hltN
            · have hd : decide (sumTo E.s.pic 3 ≠ 0) = false := by simp [Decidable.not_not.1 hz]
              obtain ⟨N, hN⟩ : ∃ N, E.pics.length = N := ⟨_, rfl⟩
              have n9 : N ≤ 903 := by omega
              have n1 : 1 ≤ N := by omega
              obtain ⟨gv, mm, cv, ev, cm, lmm, hM, hI2⟩ := g5.picture (N - 1) (by show N - 1 < E.pics.length; omega)
              have np : E.nextPic = E.pics.getD (N - 1) (fun _ => 0) := by
                unfold Ch.nextPic
                rw [if_neg hz, hN]
              have NP := hide np
              clear np
              have ev : v = .slice (some ⟨gv, 0, none⟩) E.pics.length cv := ev
              rw [hN] at ev l63 l64
              subst ev
              have c7 := g5.c7
              have ow : (w5.alloc (.cells #[.slice (some ⟨mm.1, 0, none⟩) 3 mm.2] 31)).ownsRow 0 31 1 (.slice (some ⟨gv, 0, none⟩) N cv) N (mrow M) := by
                have o := g5.own
                rw [show ({ E with cyc := E.cyc + 1, bon := bonusV E.bon E.ratio } : Ch).pics.length = N from hN] at o
                exact o.alloc _
              have N6 : ∀ j u, [Value.slice (some ⟨mm.1, 0, none⟩) 3 mm.2][j]? = some u → (w5.alloc (.cells #[.slice (some ⟨mm.1, 0, none⟩) 3 mm.2] 31)).cell? ((⟨w5.heap.size, 0, none⟩ : Addr).add j) = some u := World.news_of_block (heap_alloc_new w5 _)
              have one : ∀ u ∈ [Value.slice (some ⟨mm.1, 0, none⟩) 3 mm.2], u.oneCell' = true := by simp [Value.oneCell']
              have HN := hide hN
              rw [hd]
              clear hz hd hN hlen
              have i0' : (0 : Int) ≤ (N : Int) - 1 := by omega
              have i1' : (N : Int) - 1 < (N : Int) := by omega
              have i2' : (N : Int) ≤ 903 := by omega
              have i3' : w5.cell? ⟨gv, ((N : Int) - 1).toNat, none⟩ = some (.slice (some ⟨mm.1, 0, none⟩) 3 mm.2) := by rw [show ((N : Int) - 1).toNat = N - 1 by omega]; exact cm
              go_wp2_with fail
              go_quiet (fail)
              have g7 := g5.drewN nq
              have B7 : Below w4.heap.size w4 (w5.drewN nq) := below_drewN hB5 nq
              have I7 : Ints (w5.drewN nq) mm.1 0 3 E.nextPic := by rw [NP.out]; exact hI2
              clear i3' ow N6 c7 g5 hI2 cm hI hm6 hB5
              generalize w5.drewN nq = w7 at *
              have c7 := g7.c7
              have ow : (w7.alloc (.cells #[.slice (some ⟨mm.1, 0, none⟩) 3 mm.2] 31)).ownsRow 0 31 1 (.slice (some ⟨gv, 0, none⟩) E.pics.length cv) E.pics.length (mrow M) := g7.own.alloc _
              have N6 : ∀ j u, [Value.slice (some ⟨mm.1, 0, none⟩) 3 mm.2][j]? = some u → (w7.alloc (.cells #[.slice (some ⟨mm.1, 0, none⟩) 3 mm.2] 31)).cell? ((⟨w7.heap.size, 0, none⟩ : Addr).add j) = some u := World.news_of_block (heap_alloc_new w7 _)
              go_wp2_with (at_builtin; refine wpList_append_lies _ rfl (.tmp 122) (.tmp 124) 60 rfl 0 31 i0 (.slice none 0 0) 1 24 Tryz.underlying60 hi hz0 hz1 hz2 rfl (by decide) (.slice (some ⟨gv, 0, none⟩) E.pics.length cv) E.pics.length (mrow M) rfl ow ⟨w7.heap.size, 0, none⟩ 1 1 [.slice (some ⟨mm.1, 0, none⟩) 3 mm.2] rfl rfl N6 one (by decide) l63 l64 (Nat.zero_le _) _ rfl ?_; intro gN capN w6 hown hgrow hat hltN; obtain ⟨d7, e7⟩ := g7.slot7 hgrow)
              go_end0
              have hBx : Below w4.heap.size w4 (w7.alloc (.cells #[.slice (some ⟨mm.1, 0, none⟩) 3 mm.2] 31)) := B7.alloc B7.size _
              have hIx : Ints (w7.alloc (.cells #[.slice (some ⟨mm.1, 0, none⟩) 3 mm.2] 31)) mm.1 0 3 E.nextPic := fun i hi => was_cell ((Below.refl _ _).alloc (Nat.le_refl _) _) (I7 i hi)
              refine ⟨rfl, ?_⟩
              rw [ED.out]
              exact pic_end hF K1 K4 g4 (m := mm) (.inr (List.mem_of_getElem? hM)) hBx hIx rfl hown hgrow hat hltN
end Go.Proofs.YtaihcceobnfmhaaGreatDoor

namespace Go.Proofs.YtaihcceobnfmhaaGreatDoor
open Go.RowKit

/-- the document's chain, its parts at these places -/
def RChB (F : Nat → Prop) (w : World) (cb pb sb kb : Nat) (C : Ch) : Prop := ∃ tag pq v M, (∀ k, F k ↔ tag k ≠ 0) ∧ RChAt tag w cb pb pq sb kb v M C
theorem RCh.parts {F : Nat → Prop} {w : World} {cb : Nat} {C : Ch} (h : RCh F w cb C) : ∃ pb sb kb, RChB F w cb pb sb kb C := by
  obtain ⟨tag, pb, pq, sb, kb, v, M, hF, h⟩ := h
  exact ⟨pb, sb, kb, tag, pq, v, M, hF, h⟩
theorem RChB.whole {F : Nat → Prop} {w : World} {cb pb sb kb : Nat} {C : Ch} (h : RChB F w cb pb sb kb C) : RCh F w cb C := by
  obtain ⟨tag, pq, v, M, hF, h⟩ := h
  exact ⟨tag, pb, pq, sb, kb, v, M, hF, h⟩
theorem RChB.keptP {F G : Nat → Prop} {w w' : World} {cb pb sb kb : Nat} {C : Ch} (h : RChB F w cb pb sb kb C) (hK : KeptP G w w') (hF : ∀ k, G k → ¬ F k) : RChB F w' cb pb sb kb C := by
  obtain ⟨tag, pq, v, M, hf, h⟩ := h
  exact ⟨tag, pq, v, M, hf, h.keptP hK fun k g => by
    rcases Nat.eq_zero_or_pos (tag k) with e | e
    · exact e
    · exact absurd ((hf k).2 (by omega)) (hF k g)⟩
theorem RChB.drewN {F : Nat → Prop} {w : World} {cb pb sb kb : Nat} {C : Ch} (h : RChB F w cb pb sb kb C) (n : Nat) : RChB F (w.drewN n) cb pb sb kb C := h.keptP (G := fun _ => False) ((KeptP.refl _ _).drewN n) fun _ g => g.elim
theorem RChB.nextB {F : Nat → Prop} {w w' : World} {cb pb sb kb : Nat} {C : Ch} (h : RChB F w cb pb sb kb C) (k : Below w.heap.size w w') : RChB F w' cb pb sb kb C := h.keptP (KeptP.of_below (F := fun _ => False) k) fun _ g => g.elim
theorem RChB.lt {F : Nat → Prop} {w : World} {cb pb sb kb : Nat} {C : Ch} (h : RChB F w cb pb sb kb C) (k : Nat) (hk : F k) : k < w.heap.size := h.whole.lt k hk
theorem RChB.c0 {F : Nat → Prop} {w : World} {cb pb sb kb : Nat} {C : Ch} (h : RChB F w cb pb sb kb C) : w.cell? ⟨cb, 0, none⟩ = some (.pointer (some ⟨pb, 0, none⟩)) := by
  obtain ⟨tag, pq, v, M, hf, h⟩ := h; exact h.c0
theorem RChB.c1 {F : Nat → Prop} {w : World} {cb pb sb kb : Nat} {C : Ch} (h : RChB F w cb pb sb kb C) : w.cell? ⟨cb, 1, none⟩ = some (.pointer (some ⟨sb, 0, none⟩)) := by
  obtain ⟨tag, pq, v, M, hf, h⟩ := h; exact h.c1
theorem RChB.c2 {F : Nat → Prop} {w : World} {cb pb sb kb : Nat} {C : Ch} (h : RChB F w cb pb sb kb C) : w.cell? ⟨cb, 2, none⟩ = some (.pointer (some ⟨kb, 0, none⟩)) := by
  obtain ⟨tag, pq, v, M, hf, h⟩ := h; exact h.c2
theorem RChB.c4 {F : Nat → Prop} {w : World} {cb pb sb kb : Nat} {C : Ch} (h : RChB F w cb pb sb kb C) : w.cell? ⟨cb, 4, none⟩ = some (.int .i64 C.cyc) := by
  obtain ⟨tag, pq, v, M, hf, h⟩ := h; exact h.c4
theorem RChB.c5 {F : Nat → Prop} {w : World} {cb pb sb kb : Nat} {C : Ch} (h : RChB F w cb pb sb kb C) : w.cell? ⟨cb, 5, none⟩ = some (.int .i64 C.lev) := by
  obtain ⟨tag, pq, v, M, hf, h⟩ := h; exact h.c5
theorem RChB.c6 {F : Nat → Prop} {w : World} {cb pb sb kb : Nat} {C : Ch} (h : RChB F w cb pb sb kb C) : w.cell? ⟨cb, 6, none⟩ = some (.int .i64 C.bon) := by
  obtain ⟨tag, pq, v, M, hf, h⟩ := h; exact h.c6
theorem RChB.own {F : Nat → Prop} {w : World} {cb pb sb kb : Nat} {C : Ch} (h : RChB F w cb pb sb kb C) : F cb := by
  obtain ⟨tag, pq, v, M, hf, h⟩ := h; exact (hf cb).2 (by rw [h.tc]; decide)
/-- its stakes -/
theorem RChB.stk {F : Nat → Prop} {w : World} {cb pb sb kb : Nat} {C : Ch} (h : RChB F w cb pb sb kb C) : ∃ G, RSk G w sb C.s ∧ ∀ k, G k → F k := by
  obtain ⟨tag, pq, v, M, hf, h⟩ := h
  exact ⟨_, h.s, fun k (e : tag k = 3) => (hf k).2 (by rw [e]; decide)⟩
/-- its purse -/
theorem RChB.pur {F : Nat → Prop} {w : World} {cb pb sb kb : Nat} {C : Ch} (h : RChB F w cb pb sb kb C) : ∃ pq, RPu w pb pq C.p := by
  obtain ⟨tag, pq, v, M, hf, h⟩ := h
  exact ⟨pq, h.p⟩
theorem rchb_move (F : Nat → Prop) (cb pb sb kb : Nat) (C : Ch) (hC : C.Ok) (o t n : Int) (w : World) (h : RChB F w cb pb sb kb C) :
    Calls Tryz.prog 72 #[.pointer (some ⟨pb, 0, none⟩), .int .i64 o, .int .i64 t, .int .i64 n] w fun e w' => e = .returned (.int .i64 (C.p.moveC o t n)) ∧ RChB F w' cb pb sb kb (C.pay o t n) ∧ Moved F F w w' := by
  obtain ⟨tag, pq, v, M, hF, h⟩ := h
  exact (rp_move pb pq C.p hC.p o t n w h.p).mono fun _ _ ⟨h1, h2, h3⟩ => ⟨h1, ⟨tag, pq, v, M, hF, h.purse h2 h3⟩, h.movedP hF h3⟩
theorem rchb_leave (F : Nat → Prop) (cb pb sb kb : Nat) (C : Ch) (hC : C.Ok) (hk : C.s.K.length ≤ 900) (o b n : Int) (w : World) (h : RChB F w cb pb sb kb C) :
    Calls Tryz.prog 74 #[.pointer (some ⟨sb, 0, none⟩), .int .i64 o, .int .i64 b, .int .i64 n, .int .i64 C.cyc] w fun e w' => e = .returned (.int .i64 (C.s.leaveC o b n C.cyc)) ∧ ∃ F', RChB F' w' cb pb sb kb (C.unstake o b n) ∧ Moved F F' w w' := by
  obtain ⟨tag, pq, v, M, hF, h⟩ := h
  exact (rs_leave _ sb C.s hC.s (by omega) o b n C.cyc w h.s).mono fun _ _ ⟨h1, _, h2, h3⟩ => ⟨h1, _, ⟨_, pq, v, M, fun _ => Iff.rfl, h.stakes h2 h3⟩, retag_moved hF h3 (by decide)⟩
theorem rchb_accuse (F : Nat → Prop) (cb pb sb kb : Nat) (C : Ch) (hC : C.Ok) (hl : C.c.L.length ≤ 900) (o b y m : Int) (w : World) (h : RChB F w cb pb sb kb C) :
    Calls Tryz.prog 76 #[.pointer (some ⟨kb, 0, none⟩), .int .i64 o, .agg #[.int .i64 b, .int .i64 y, .int .i64 m], .int .i64 C.cyc] w fun e w' => e = .returned (.int .i64 (C.c.accC o (b, y, m) C.cyc)) ∧ ∃ F', RChB F' w' cb pb sb kb (C.accuse o (b, y, m)) ∧ Moved F F' w w' := by
  obtain ⟨tag, pq, v, M, hF, h⟩ := h
  exact (rc_acc _ kb C.c hC.c hl o b y m C.cyc w h.c).mono fun _ _ ⟨h1, _, h2, h3⟩ => ⟨h1, _, ⟨_, pq, v, M, fun _ => Iff.rfl, h.court h2 h3⟩, retag_moved hF h3 (by decide)⟩
/-- a block of who has the turn -/
theorem rch_bake_fine (F : Nat → Prop) (cb : Nat) (C : Ch) (hC : C.Ok) (i : Nat) (hi : i ≤ 400) (hf : C.Fit i) (b r : Int) (hr : TurnOk C.cyc C.lev r) (w : World) (h : RCh F w cb C) (T : ∀ k, Turn 3 C.pic C.seed C.cyc C.lev r k → k = b) :
    Calls Tryz.prog 77 #[.pointer (some ⟨cb, 0, none⟩), .int .i64 b, .int .i64 r] w fun e w' => e = .returned (.tuple #[.int .i64 (C.bakeN b), .int .i64 0]) ∧ ∃ F', RCh F' w' cb (C.bake b) ∧ Moved F F' w w' := by
  have p := C.paid_same b
  have y := hf.y
  have v := hf.v
  exact rch_bake_own F cb C hC (by omega) b r hr w h T (ends_as cb _ ((hC.paid b).lev _) (by show (C.paid b).s.K.length ≤ 900; rw [Ch.paid_K]; have := hf.k; omega) (by show (C.paid b).c.L.length ≤ 900; rw [p.2.2]; have := hf.l; omega) (by show (C.paid b).cyc ≤ 900; rw [p.1]; omega))
end Go.Proofs.YtaihcceobnfmhaaGreatDoor

namespace Go.Proofs.YtaihcceobnfmhaaGreatDoor
open Go.RowKit

end Go.Proofs.YtaihcceobnfmhaaGreatDoor
