/-
  The program's chain by its contracts: a picture is taken.
-/
import Derived.Test.YtaihcceobnfmhaaDoorProgChainEndX
import Derived.Laws.IdiomCopy
namespace Go.Proofs.YtaihcceobnfmhaaDoor
open Go.RowKit

theorem Tryd.picSize : (Tryd.prog.info? 43).map (·.size) = some 1 := by kernel_rfl
/-- three slices in a row: the last two go one place ahead -/
theorem copied {w : World} {cb m1 m2 cap1 cap2 : Nat} {x0 : Value} (a7 : w.cell? ⟨cb, 7, none⟩ = some x0) (a8 : w.cell? ⟨cb, 8, none⟩ = some (.slice (some ⟨m1, 0, none⟩) 3 cap1)) (a9 : w.cell? ⟨cb, 9, none⟩ = some (.slice (some ⟨m2, 0, none⟩) 3 cap2)) (f : ∀ i, w.frozen? ⟨cb, i, none⟩ = false) (ty : TypeId) :
    (Builtin.copy_ #[112, 112] ty #[.slice (some ⟨cb, 7, none⟩) 3 3, .slice (some ⟨cb, 8, none⟩) 2 2]).run Tryd.prog w = .ok (goInt 2) ((w.setCell ⟨cb, 7, none⟩ (.slice (some ⟨m1, 0, none⟩) 3 cap1)).setCell ⟨cb, 8, none⟩ (.slice (some ⟨m2, 0, none⟩) 3 cap2)) :=
  run_copy_cells (P := Tryd.prog) w 112 112 ty 43 cb 7 3 3 ⟨cb, 8, none⟩ 2 2 [.slice (some ⟨m1, 0, none⟩) 3 cap1, .slice (some ⟨m2, 0, none⟩) 3 cap2] Tryd.underlying112 Tryd.picSize rfl
    (fun j v h => by
      match j, h with
      | 0, h => cases h; exact a8
      | 1, h => cases h; exact a9)
    (fun j hj => by
      match j, hj with
      | 0, _ => rw [a7]; rfl
      | 1, _ => rw [a8]; rfl)
    (fun j _ => f (7 + j))
    (fun v hv => by
      rcases List.mem_cons.1 hv with rfl | hv
      · rfl
      · rw [List.mem_singleton.1 hv]; rfl)
theorem PChAt.drewN {tag : Nat → Nat} {w : World} {cb pb sb kb g : Nat} {xs : Nat → Value} {C : Ch} (h : PChAt tag w cb pb sb kb xs C g) (n : Nat) : PChAt tag (w.drewN n) cb pb sb kb xs C g := h.keptP ((KeptP.refl (fun _ => False) w).drewN n) fun _ q => q.elim
set_option maxRecDepth 100000 in
set_option maxHeartbeats 2000000 in
theorem pcb_take (tag : Nat → Nat) (cb pb sb kb : Nat) (xs : Nat → Value) (C : Ch) (hS : C.s.Ok) (W : Nat → Int) (hW : (C.pics.drop C.cyc)[2]? = some W) (ps : List (Nat → Int)) (hps : ∀ i, i < 3 → (ps.drop C.cyc)[i]? = if i = 2 then some (nextOf C.s W) else (C.pics.drop C.cyc)[i + 1]?) (g : Nat) (w : World) (h : PChAt tag w cb pb sb kb xs C g) :
    Calls Tryd.prog 64 #[.pointer (some ⟨cb, 0, none⟩)] w fun e w' => ∃ tag' xs', e = .returned (.tuple #[]) ∧ PChAt tag' w' cb pb sb kb xs' { C with pics := ps } g ∧ (∀ k, k < w.heap.size → tag' k ≠ 0 → tag k ≠ 0) ∧ KeptP (fun k => tag k ≠ 0) w w' := by
  have c1 := h.c1
  have P := pr_picture (fun k => tag k = 3) sb C.s hS g w h.s
  have pw := hS.picW
  have p0 := (pw.bd 0 (by omega)).1
  have p1 := (pw.bd 1 (by omega)).1
  have p2 := (pw.bd 2 (by omega)).1
  have mz := maxTo_zero p0 p1 p2
  obtain ⟨m2, cap2, x2, t2, I2⟩ := h.pics.one 2 W (by omega) hW
  have l2 := h.lt m2 (by rw [t2]; decide)
  go_enter Tryd.func64, Tryd.ntmps64
  go_wp2_with fail
  refine P.mono ?_
  rintro e w1 ⟨m, cap, rfl, ⟨hm, hm1⟩, I, hB⟩
  have MX := max_three m cap C.s.pic w1 I
  have h1 := h.below hB
  have H := hide h
  have H1 := hide h1
  clear P c1 p0 p1 p2 pw h
  go_wp2_with fail
  refine MX.mono ?_
  rintro e w1' ⟨rfl, hw⟩
  obtain rfl := hw.symm
  clear hw MX
  have sz2 : 2 < (C.pics.drop C.cyc).length := (List.getElem?_eq_some_iff.1 hW).1
  obtain ⟨W1, hW1⟩ : ∃ W1, (C.pics.drop C.cyc)[1]? = some W1 := ⟨_, List.getElem?_eq_getElem (by omega)⟩
  obtain ⟨m1, cap1, x1, _, _⟩ := H.out.pics.one 1 W1 (by omega) hW1
  have a7 := H1.out.c7
  have a8 := H1.out.c8
  have a9 := H1.out.c9
  rw [x1] at a8
  rw [x2] at a9
  have cp := copied (w := w1.drew) (cb := cb) (x0 := xs 0) (m1 := m1) (m2 := m2) (cap1 := cap1) (cap2 := cap2) a7 a8 a9 (fun i => H1.out.f i)
  have f9 := H1.out.f 9
  have HP := hide hps
  clear sz2 hW1 hW hps hS
  by_cases hz : maxTo C.s.pic 2 = 0
  · have NE := hide (show nextOf C.s W = W from if_neg (not_not_intro (mz.1 hz)))
    clear mz
    generalize maxTo C.s.pic 2 = q at *
    go_wp2_with fail
    go_region
    all_goals
      go_wp2_with fail
      go_end0
      obtain ⟨tag', gF, hold, hK⟩ := H.out.shifted (wx := w1) (m := m2) (cap := cap2) (Wn := nextOf C.s W) (ps := ps) hB (.inl t2) (Nat.lt_of_lt_of_le l2 hB.size) (fun i hi => by rw [NE.out]; exact was_cellP hB (I2 i hi)) HP.out
      rw [x1, x2] at gF hK
      exact ⟨tag', _, rfl, gF.drewN 1, hold, hK.drew⟩
  · have NE := hide (show nextOf C.s W = C.s.pic from if_pos fun z => hz (mz.2 z))
    clear mz
    generalize maxTo C.s.pic 2 = q at *
    go_wp2_with fail
    go_region
    all_goals
      go_wp2_with fail
      go_end0
      obtain ⟨tag', gF, hold, hK⟩ := H.out.shifted (wx := w1) (m := m) (cap := cap) (Wn := nextOf C.s W) (ps := ps) hB (.inr hm) hm1 (fun i hi => by rw [NE.out]; exact I i hi) HP.out
      rw [x1, x2] at gF hK
      exact ⟨tag', _, rfl, gF.drewN 1, hold, hK.drew⟩
end Go.Proofs.YtaihcceobnfmhaaDoor
