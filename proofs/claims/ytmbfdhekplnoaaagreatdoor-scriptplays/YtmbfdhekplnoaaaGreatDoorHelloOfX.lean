/-
  A line of a script (script.do, script.answer), by the commands' contracts.
  Whatever line of a script (script.do), and its answer (script.answer).
  The program's scripts (script.Run), by its contract.
  The closed fact 'hello' of package bakehouselaw3, plainly: five lines and their answers.
  The closed fact 'hello' of package bakehouselaw3, by its contract.
-/
import Derived.Test.YtmbfdhekplnoaaaGreatDoorScDoers
import Derived.Test.YtmbfdhekplnoaaaGreatDoorTextOwnX
import Derived.Test.YtmbfdhekplnoaaaGreatDoorProgStkTellsX
namespace Go.Proofs.YtmbfdhekplnoaaaGreatDoor
open Go.RowKit Go.Maps

def LineEnd (sb : Nat) (F : Nat → Prop) (cb g : Nat) (C : Ch) (s : List UInt8) (A : Nat → Addr) (w : World) (e : Ending) (w' : World) : Prop :=
  ∃ (t : List UInt8) (c : Int) (ev : Value) (C' : Ch) (F' : Nat → Prop), e = .returned (.tuple #[.string (bs t), ev]) ∧ ErrIs A ev c ∧ Says C s (orT c t) C' ∧ PCb sb F' w' cb C' (g + 8000) ∧ Moved F F' w w'
section
variable {w0 w : World} {sb cb pl ss : Nat} {F : Nat → Prop} {C : Ch} {j g : Nat} {A : Nat → Addr}
theorem Ctx.next (X : Ctx w0 w sb cb pl ss F C j g A) {w' : World} (hB : Below w.heap.size w w') : Ctx w0 w' sb cb pl ss F C j g A :=
  ⟨X.ok, X.fit, X.hj, X.hg, X.laid, X.mi.nextB hB, X.h.below hB, was_cellP hB X.hpl, X.npl, was_cellP hB X.hss, X.nss⟩
theorem split_cell {w : World} {l : List (List UInt8)} {i : Nat} {x : List UInt8} {t : TypeId} (h : l[i]? = some x) : (w.alloc (.cells (l.map fun x => Value.string (bs x)).toArray t)).cell? ⟨w.heap.size, i, none⟩ = some (.string (bs x)) :=
  cell_new _ _ _ _ _ _ rfl (by simp [h])
set_option maxRecDepth 100000 in
set_option maxHeartbeats 2000000 in
theorem do_none (X : Ctx w0 w sb cb pl ss F C j g A) (m : Nat) (G : List UInt8 → Option (List UInt8 × Nat × Nat)) (K : OwnC w m G 15) (s wd : List UInt8) (rest : List (List UInt8)) (hs : s.length ≤ 200) (hc : cuts s = wd :: rest) (hf : formL wd = none) (hG : G wd = none) :
    Calls Tryz.prog 95 #[.map (some m), .string (bs s)] w (LineEnd sb F cb g C s A w) := by
  have P := sc_split s (by omega) w
  have sh := cuts_short s wd (by rw [hc]; exact List.mem_cons_self ..)
  have B1 : Below w.heap.size w (w.alloc (.cells ((cuts s).map fun x => Value.string (bs x)).toArray 9)) := (Below.refl _ _).alloc (Nat.le_refl _) _
  have c0 : (w.alloc (.cells ((cuts s).map fun x => Value.string (bs x)).toArray 9)).cell? ⟨w.heap.size, 0, none⟩ = some (.string (bs wd)) := split_cell (by rw [hc]; rfl)
  obtain ⟨v, hr, _, hv⟩ := (K.of_block (B1.block m K.lt)).look wd (by omega)
  rw [hG] at hr
  have n1 : (cuts s).length = rest.length + 1 := by rw [hc]; rfl
  have SY : Hid (Says C s (orT 1 []) C) := hide (.inr ⟨noform_cmd hc hf, rfl, rfl⟩)
  have L1 := X.laid.below (X.mi.nextB B1).below
  rw [n1] at P
  generalize hw1 : w.alloc (.cells ((cuts s).map fun x => Value.string (bs x)).toArray 9) = w1 at *
  have XX := hide X
  have gt : ∀ o, (w1.alloc o).cell? ⟨1, 0, none⟩ = some (sent (A 0)) := fun o => was_cellP ((Below.refl _ _).alloc (Nat.le_refl _) o) L1.v0
  have fin : ∀ o, Hid (Below w.heap.size w (w1.alloc o)) := fun o => hide (B1.alloc B1.size o)
  clear X hw1 L1 K sh hs n1 B1
  go_enter Tryz.func95, Tryz.ntmps95
  have sn := fun (a : Addr) m (w : World) => run_store Tryz.prog w a .nilFunc m rfl
  have sf := fun (f b : Nat) (a : Addr) m (w : World) => run_store Tryz.prog w a (.func (.func f) #[] #[.pointer (some ⟨b, 0, none⟩)]) m rfl
  rcases hv with ⟨fm1, f1, b1, rfl⟩ | ⟨s1, rfl⟩
  all_goals
    go_wp2_with (go_at_call 144; refine P.mono ?_; rintro e w2 ⟨rfl, hw⟩; rw [hw])
    go_quiet (fail)
    go_wp2
    go_ret2
    exact ⟨[], 1, _, C, F, rfl, .inr ⟨0, by omega, rfl, rfl⟩, SY.out, (XX.out.h.below (below_drewN (fin _).out _)).more (by omega), XX.out.h.stays (below_drewN (fin _).out _)⟩
set_option maxRecDepth 100000 in
set_option maxHeartbeats 2000000 in
theorem do_some (X : Ctx w0 w sb cb pl ss F C j g A) (m : Nat) (G : List UInt8 → Option (List UInt8 × Nat × Nat)) (K : OwnC w m G 15) (s wd : List UInt8) (rest : List (List UInt8)) (hs : s.length ≤ 200) (hc : cuts s = wd :: rest) (f : List UInt8) (hf : formL wd = some f) (f4 : f.length ≤ 4) (fn blk : Nat) (hG : G wd = some (f.map upL, fn, blk))
    (eg : ∀ args w, (callFunc fn args).run Tryz.prog w = .ok (.enter fn args) w)
    (HD : ∀ w' b N, Below w.heap.size w w' → rest.length = f.length → (∀ i, i < rest.length → N i ≤ 9999999) → w.heap.size ≤ b → NumRow w' b rest.length N → Calls Tryz.prog fn #[.slice (some ⟨b, 0, none⟩) rest.length rest.length, .pointer (some ⟨blk, 0, none⟩)] w' (DoEnd sb F cb g C wd (natsTo N rest.length) A w')) :
    Calls Tryz.prog 95 #[.map (some m), .string (bs s)] w (LineEnd sb F cb g C s A w) := by
  have P := sc_split s (by omega) w
  have sh := cuts_short s
  have ln := cuts_len s
  have B1 : Below w.heap.size w (w.alloc (.cells ((cuts s).map fun x => Value.string (bs x)).toArray 9)) := (Below.refl _ _).alloc (Nat.le_refl _) _
  have c0 : (w.alloc (.cells ((cuts s).map fun x => Value.string (bs x)).toArray 9)).cell? ⟨w.heap.size, 0, none⟩ = some (.string (bs wd)) := split_cell (by rw [hc]; rfl)
  have cr : ∀ i, i < rest.length → (w.alloc (.cells ((cuts s).map fun x => Value.string (bs x)).toArray 9)).cell? ⟨w.heap.size, 1 + i, none⟩ = some (.string (bs (rest.getD i []))) := fun i hi => split_cell (by rw [hc, Nat.add_comm]; simp [List.getD, hi])
  obtain ⟨v, hr, hv, _⟩ := (K.of_block (B1.block m K.lt)).look wd (by have := sh wd (by rw [hc]; exact List.mem_cons_self ..); omega)
  have hv' : v = cmdV (f.map upL) fn blk := hv _ hG
  subst hv'
  rw [hG] at hr
  have n1 : (cuts s).length = rest.length + 1 := by rw [hc]; rfl
  have L1 := X.laid.below (X.mi.nextB B1).below
  have w1l : w.heap.size < (w.alloc (.cells ((cuts s).map fun x => Value.string (bs x)).toArray 9)).heap.size := cell_lt c0
  rw [n1] at P ln
  have rl : ∀ i, i < rest.length → (rest.getD i []).length ≤ 200 := fun i hi => by
    have : rest.getD i [] ∈ cuts s := by
      rw [hc]
      refine List.mem_cons_of_mem _ ?_
      have e : rest.getD i [] = rest[i] := by simp [List.getD, hi]
      rw [e]; exact List.getElem_mem hi
    have := sh _ this
    omega
  have CM := hide fun (N : Nat → Nat) (z : Parses (fun i => rest.getD i []) rest.length (f.map upL) N) => parses_cmd hc hf z
  have NO := hide fun (z : ∀ N, ¬ Parses (fun i => rest.getD i []) rest.length (f.map upL) N) => noparse_cmd hc hf z
  generalize hw1 : w.alloc (.cells ((cuts s).map fun x => Value.string (bs x)).toArray 9) = w1 at *
  have XX := hide X
  have gt : ∀ o, (w1.alloc o).cell? ⟨1, 0, none⟩ = some (sent (A 0)) := fun o => was_cellP ((Below.refl _ _).alloc (Nat.le_refl _) o) L1.v0
  have B2 : Below w.heap.size w (w1.alloc (.cells #[.string (bs (f.map upL)), .func (.func fn) #[] #[.pointer (some ⟨blk, 0, none⟩)]] 123)).drew := (B1.alloc B1.size _).drew
  have TV : ∀ a cap, (0 < rest.length → a = some ⟨w.heap.size, 1, none⟩) → rest.length ≤ cap → TextV (w1.alloc (.cells #[.string (bs (f.map upL)), .func (.func fn) #[] #[.pointer (some ⟨blk, 0, none⟩)]] 123)).drew (.slice a rest.length cap) rest.length (fun i => rest.getD i []) := fun a cap ha hcap =>
    ⟨a, cap, rfl, hcap, fun i hi => ⟨w.heap.size, 1, ha (by omega), Nat.lt_of_lt_of_le w1l ((Below.refl w1.heap.size w1).alloc (Nat.le_refl _) _).size, was_cellP ((Below.refl _ _).alloc (Nat.le_refl _) _) (cr i hi)⟩⟩
  have sf := fun (f b : Nat) (a : Addr) m (w : World) => run_store Tryz.prog w a (.func (.func f) #[] #[.pointer (some ⟨b, 0, none⟩)]) m rfl
  have r3 : rest.length ≤ 300 := by omega
  have f3 : (f.map upL).length ≤ 300 := by rw [List.length_map]; omega
  have NB := hide fun a cap ha hcap => numbers_of (fun i => rest.getD i []) rest.length r3 rl (f.map upL) f3 (.slice a rest.length cap) _ (TV a cap ha hcap)
  clear X hw1 L1 K sh hs n1 B1 cr TV rl ln
  go_enter Tryz.func95, Tryz.ntmps95
  go_wp2_with (go_at_call 144; refine P.mono ?_; rintro e w2 ⟨rfl, hw⟩; rw [hw])
  have k0 : (w1.alloc (.cells #[.string (bs (f.map upL)), .func (.func fn) #[] #[.pointer (some ⟨blk, 0, none⟩)]] 123)).cell? ⟨w1.heap.size, 0, none⟩ = some (.string (bs (f.map upL))) := cell_new _ _ _ _ _ _ rfl rfl
  have k1 : (w1.alloc (.cells #[.string (bs (f.map upL)), .func (.func fn) #[] #[.pointer (some ⟨blk, 0, none⟩)]] 123)).cell? ⟨w1.heap.size, 1, none⟩ = some (.func (.func fn) #[] #[.pointer (some ⟨blk, 0, none⟩)]) := cell_new _ _ _ _ _ _ rfl rfl
  have gt := gt (.cells #[.string (bs (f.map upL)), .func (.func fn) #[] #[.pointer (some ⟨blk, 0, none⟩)]] 123)
  clear hr c0 w1l hw sf P
  generalize (w1.alloc (.cells #[.string (bs (f.map upL)), .func (.func fn) #[] #[.pointer (some ⟨blk, 0, none⟩)]] 123)) = w3 at *
  generalize w1.heap.size = nb at *
  generalize hn : rest.length = n at *
  have HD' := hide HD
  have EG := hide eg
  clear HD eg hc hf hG
  have HN := hide hn
  clear hn
  have q1 : (1 : Int) ≤ (n : Int) + 1 := by omega
  by_cases hP : ∃ N, Parses (fun i => rest.getD i []) n (f.map upL) N
  · have NY := hide fun a cap ha hcap => (NB.out a cap ha hcap).mono fun e w5 z => (show Below w3.drew.heap.size w3.drew w5 ∧ ∃ N b, Parses (fun i => rest.getD i []) n (f.map upL) N ∧ (∀ i, i < n → N i ≤ 9999999) ∧ e = .returned (.tuple #[.slice (some ⟨b, 0, none⟩) n n, .bool true]) ∧ w3.drew.heap.size ≤ b ∧ w5.rowIs b 3 n fun i => .int .i64 (N i) from ⟨z.1, z.2.elim id fun k => absurd hP.choose_spec (k.1 _)⟩)
    clear NB hP NO gt
    rcases Nat.eq_zero_or_pos n with h0 | h0
    · subst h0
      have P5 := NY.out (some ⟨w.heap.size, 0, none⟩) 0 (fun z => absurd z (by omega)) (Nat.le_refl _)
      clear NY
      go_region_held3 (fun w' => w'.cell? ⟨nb, 0, none⟩ = some (.string (bs (f.map upL)))) (assumption)
        (first
          | (go_simp; go_at_call 145; refine P5.mono ?_; rintro e w5 ⟨hB5, N, b, hp, hN, rfl, lb, R⟩; replace hp := hide hp; replace hN := hide hN; replace R := hide R; have d0 : w5.cell? ⟨nb, 0, none⟩ = some (.string (bs (f.map upL))) := was_cellP hB5 k0))
      have e1 : w5.cell? ⟨nb, 1, none⟩ = some (.func (.func fn) #[] #[.pointer (some ⟨blk, 0, none⟩)]) := was_cellP hB5 k1
      have B5 : Below w.heap.size w w5 := B2.trans (hB5.mono B2.size)
      have eg := EG.out
      clear hB5 k0 k1 d0 P5
      go_wp2_with fail
      refine (HD'.out w5 b N B5 (hp.out.1.trans (List.length_map ..)) hN.out (Nat.le_trans B2.size lb) R.out).mono ?_
      rintro e w6 ⟨t, c, ev, C', F', rfl, hE, ha, h6, hM⟩
      have HA := hide ha
      have M6 := (XX.out.h.stays B5).trans hM
      have H6 := hide h6
      clear ha hM eg EG HD' h6
      go_wp2_with fail
      go_ret2
      have cm := CM.out N hp.out
      exact ⟨t, c, ev, C', F', rfl, hE, .inl ⟨wd, _, cm.1, cm.2, HA.out⟩, H6.out, M6⟩
    · have P5 := NY.out (some ⟨w.heap.size, 1, none⟩) n (fun _ => rfl) (Nat.le_refl _)
      have ne : ¬ n = 0 := by omega
      clear NY
      go_region_held3 (fun w' => w'.cell? ⟨nb, 0, none⟩ = some (.string (bs (f.map upL)))) (assumption)
        (first
          | (go_simp; go_at_call 145; refine P5.mono ?_; rintro e w5 ⟨hB5, N, b, hp, hN, rfl, lb, R⟩; replace hp := hide hp; replace hN := hide hN; replace R := hide R; have d0 : w5.cell? ⟨nb, 0, none⟩ = some (.string (bs (f.map upL))) := was_cellP hB5 k0))
      have e1 : w5.cell? ⟨nb, 1, none⟩ = some (.func (.func fn) #[] #[.pointer (some ⟨blk, 0, none⟩)]) := was_cellP hB5 k1
      have B5 : Below w.heap.size w w5 := B2.trans (hB5.mono B2.size)
      have eg := EG.out
      clear hB5 k0 k1 d0 P5
      go_wp2_with fail
      refine (HD'.out w5 b N B5 (hp.out.1.trans (List.length_map ..)) hN.out (Nat.le_trans B2.size lb) R.out).mono ?_
      rintro e w6 ⟨t, c, ev, C', F', rfl, hE, ha, h6, hM⟩
      have HA := hide ha
      have M6 := (XX.out.h.stays B5).trans hM
      have H6 := hide h6
      clear ha hM eg EG HD' h6
      go_wp2_with fail
      go_ret2
      have cm := CM.out N hp.out
      exact ⟨t, c, ev, C', F', rfl, hE, .inl ⟨wd, _, cm.1, cm.2, HA.out⟩, H6.out, M6⟩
  · have NY := hide fun a cap ha hcap => (NB.out a cap ha hcap).mono fun e w5 z => (show Below w3.drew.heap.size w3.drew w5 ∧ e = .returned (.tuple #[.slice none 0 0, .bool false]) from ⟨z.1, z.2.elim (fun ⟨N, _, k, _⟩ => absurd ⟨N, k⟩ hP) fun k => k.2⟩)
    replace hP : Hid (∀ N, ¬ Parses (fun i => rest.getD i []) n (f.map upL) N) := hide fun N z => hP ⟨N, z⟩
    clear NB
    rcases Nat.eq_zero_or_pos n with h0 | h0
    · subst h0
      have P5 := NY.out (some ⟨w.heap.size, 0, none⟩) 0 (fun z => absurd z (by omega)) (Nat.le_refl _)
      clear NY
      go_region_held3 (fun w' => w'.cell? ⟨nb, 0, none⟩ = some (.string (bs (f.map upL)))) (assumption)
        (first
          | (go_simp; go_at_call 145; refine P5.mono ?_; rintro e w5 ⟨hB5, rfl⟩; have d0 : w5.cell? ⟨nb, 0, none⟩ = some (.string (bs (f.map upL))) := was_cellP hB5 k0))
      have B5 : Below w.heap.size w w5 := B2.trans (hB5.mono B2.size)
      have v0 := was_cellP hB5 gt
      have SY : Hid (Says C s (orT 1 []) C) := hide (.inr ⟨NO.out hP.out, rfl, rfl⟩)
      clear hB5 k0 k1 d0 P5 gt CM NO HD' EG
      go_wp2_with fail
      go_quiet (fail)
      go_wp2
      go_ret2
      exact ⟨[], 1, _, C, F, rfl, .inr ⟨0, by omega, rfl, rfl⟩, SY.out, (XX.out.h.below (below_drewN B5 _)).more (by omega), XX.out.h.stays (below_drewN B5 _)⟩
    · have P5 := NY.out (some ⟨w.heap.size, 1, none⟩) n (fun _ => rfl) (Nat.le_refl _)
      have ne : ¬ n = 0 := by omega
      clear NY
      go_region_held3 (fun w' => w'.cell? ⟨nb, 0, none⟩ = some (.string (bs (f.map upL)))) (assumption)
        (first
          | (go_simp; go_at_call 145; refine P5.mono ?_; rintro e w5 ⟨hB5, rfl⟩; have d0 : w5.cell? ⟨nb, 0, none⟩ = some (.string (bs (f.map upL))) := was_cellP hB5 k0))
      have B5 : Below w.heap.size w w5 := B2.trans (hB5.mono B2.size)
      have v0 := was_cellP hB5 gt
      have SY : Hid (Says C s (orT 1 []) C) := hide (.inr ⟨NO.out hP.out, rfl, rfl⟩)
      clear hB5 k0 k1 d0 P5 gt CM NO HD' EG
      go_wp2_with fail
      go_quiet (fail)
      go_wp2
      go_ret2
      exact ⟨[], 1, _, C, F, rfl, .inr ⟨0, by omega, rfl, rfl⟩, SY.out, (XX.out.h.below (below_drewN B5 _)).more (by omega), XX.out.h.stays (below_drewN B5 _)⟩
end
end Go.Proofs.YtmbfdhekplnoaaaGreatDoor

namespace Go.Proofs.YtmbfdhekplnoaaaGreatDoor
open Go.RowKit Go.Maps

theorem cmdF_none {k : List UInt8} (h : formL k = none) (pl : Nat) (q : Nat → Nat) : cmdF pl q k = none := by
  have n_wPay : k ≠ wPay := fun e => by rw [e] at h; exact absurd h (by decide)
  have n_wStake : k ≠ wStake := fun e => by rw [e] at h; exact absurd h (by decide)
  have n_wUnstake : k ≠ wUnstake := fun e => by rw [e] at h; exact absurd h (by decide)
  have n_wAccuse : k ≠ wAccuse := fun e => by rw [e] at h; exact absurd h (by decide)
  have n_wFree : k ≠ wFree := fun e => by rw [e] at h; exact absurd h (by decide)
  have n_wBake : k ≠ wBake := fun e => by rw [e] at h; exact absurd h (by decide)
  have n_wCycle : k ≠ wCycle := fun e => by rw [e] at h; exact absurd h (by decide)
  have n_wTurn : k ≠ wTurn := fun e => by rw [e] at h; exact absurd h (by decide)
  have n_wHas : k ≠ wHas := fun e => by rw [e] at h; exact absurd h (by decide)
  have n_wStaked : k ≠ wStaked := fun e => by rw [e] at h; exact absurd h (by decide)
  have n_wValue : k ≠ wValue := fun e => by rw [e] at h; exact absurd h (by decide)
  have n_wWaits : k ≠ wWaits := fun e => by rw [e] at h; exact absurd h (by decide)
  have n_wSupply : k ≠ wSupply := fun e => by rw [e] at h; exact absurd h (by decide)
  have n_wBonus : k ≠ wBonus := fun e => by rw [e] at h; exact absurd h (by decide)
  have n_wAt : k ≠ wAt := fun e => by rw [e] at h; exact absurd h (by decide)
  unfold cmdF moreC
  rw [if_neg n_wAt, if_neg n_wBonus, if_neg n_wSupply, if_neg n_wWaits, if_neg n_wValue, if_neg n_wStaked, if_neg n_wHas, if_neg n_wTurn, if_neg n_wCycle, if_neg n_wBake, if_neg n_wFree, if_neg n_wAccuse, if_neg n_wUnstake, if_neg n_wStake, if_neg n_wPay]
structure Cm (w : World) (F : Nat → Prop) (m cb sb pl ss : Nat) (q : Nat → Nat) : Prop where
  own : OwnC w m (cmdF pl q) 15
  qc : ∀ x, x ∈ cmdQ cb sb pl ss q → w.cell? ⟨x.1, 0, none⟩ = some x.2
  nm : ¬ F m
  nq : ∀ x, x ∈ cmdQ cb sb pl ss q → ¬ F x.1
theorem Cm.moved {w w' : World} {F F' : Nat → Prop} {m cb sb pl ss : Nat} {q : Nat → Nat} (h : Cm w F m cb sb pl ss q) (hM : Moved F F' w w') : Cm w' F' m cb sb pl ss q :=
  ⟨h.own.of_block (hM.kept.block m h.own.lt h.nm), fun x hx => hM.kept.old (h.qc x hx) (h.nq x hx), fun z => h.nm (hM.old _ h.own.lt z), fun x hx z => h.nq x hx (hM.old _ (cell_lt (h.qc x hx)) z)⟩
section
variable {w0 w : World} {sb cb pl ss m : Nat} {F : Nat → Prop} {C : Ch} {j g : Nat} {A : Nat → Addr} {q : Nat → Nat}
theorem Ctx.new_no (X : Ctx w0 w sb cb pl ss F C j g A) {b : Nat} (h : w.heap.size ≤ b) : ¬ F b := fun z => by have := X.h.lt b z; omega
set_option maxRecDepth 100000 in
theorem line_of (X : Ctx w0 w sb cb pl ss F C j g A) (M : Cm w F m cb sb pl ss q) (s : List UInt8) (hs : s.length ≤ 200) :
    Calls Tryz.prog 95 #[.map (some m), .string (bs s)] w (LineEnd sb F cb g C s A w) := by
  obtain ⟨wd, rest, hc, _⟩ := cuts_shape s
  cases hf : formL wd with
  | none => exact do_none X m (cmdF pl q) M.own s wd rest hs hc hf (cmdF_none hf pl q)
  | some f =>
    rcases formL_words hf with ⟨rfl, rfl⟩ | ⟨rfl, rfl⟩ | ⟨rfl, rfl⟩ | ⟨rfl, rfl⟩ | ⟨rfl, rfl⟩ | ⟨rfl, rfl⟩ | ⟨rfl, rfl⟩ | ⟨rfl, rfl⟩ | ⟨rfl, rfl⟩ | ⟨rfl, rfl⟩ | ⟨rfl, rfl⟩ | ⟨rfl, rfl⟩ | ⟨rfl, rfl⟩ | ⟨rfl, rfl⟩ | ⟨rfl, rfl⟩
    · exact do_some X m (cmdF pl q) M.own s _ rest hs hc _ hf (by decide) 127 (q 0) rfl (enters_of Tryz.func127 (by kernel_rfl) rfl) fun w' b N hB hl hN lb R => by
        replace hl : rest.length = 3 := hl
        rw [hl] at hN R ⊢
        exact d_pay (X.next hB) (q 0) (was_cellP hB (M.qc (q 0, .func (.func 60) #[] #[.pointer (some ⟨pl, 0, none⟩)]) (by simp [cmdQ]))) b N hN R (X.new_no lb)
    · exact do_some X m (cmdF pl q) M.own s _ rest hs hc _ hf (by decide) 127 (q 1) rfl (enters_of Tryz.func127 (by kernel_rfl) rfl) fun w' b N hB hl hN lb R => by
        replace hl : rest.length = 3 := hl
        rw [hl] at hN R ⊢
        exact d_stake (X.next hB) (q 1) (was_cellP hB (M.qc (q 1, .func (.func 62) #[] #[.pointer (some ⟨pl, 0, none⟩)]) (by simp [cmdQ]))) b N hN R (X.new_no lb)
    · exact do_some X m (cmdF pl q) M.own s _ rest hs hc _ hf (by decide) 127 (q 2) rfl (enters_of Tryz.func127 (by kernel_rfl) rfl) fun w' b N hB hl hN lb R => by
        replace hl : rest.length = 3 := hl
        rw [hl] at hN R ⊢
        exact d_unstake (X.next hB) (q 2) (was_cellP hB (M.qc (q 2, .func (.func 64) #[] #[.pointer (some ⟨pl, 0, none⟩)]) (by simp [cmdQ]))) b N hN R (X.new_no lb)
    · exact do_some X m (cmdF pl q) M.own s _ rest hs hc _ hf (by decide) 137 (q 10) rfl (enters_of Tryz.func137 (by kernel_rfl) rfl) fun w' b N hB hl hN lb R => by
        replace hl : rest.length = 3 := hl
        rw [hl] at hN R ⊢
        exact d_waits (X.next hB) (q 10) (was_cellP hB (M.qc (q 10, .func (.func 86) #[] #[.pointer (some ⟨ss, 0, none⟩)]) (by simp [cmdQ]))) b N hN R (X.new_no lb)
    · exact do_some X m (cmdF pl q) M.own s _ rest hs hc _ hf (by decide) 127 (q 3) rfl (enters_of Tryz.func127 (by kernel_rfl) rfl) fun w' b N hB hl hN lb R => by
        replace hl : rest.length = 4 := hl
        rw [hl] at hN R ⊢
        exact d_accuse (X.next hB) (q 3) (was_cellP hB (M.qc (q 3, .func (.func 66) #[] #[.pointer (some ⟨pl, 0, none⟩)]) (by simp [cmdQ]))) b N hN R (X.new_no lb)
    · exact do_some X m (cmdF pl q) M.own s _ rest hs hc _ hf (by decide) 132 (q 4) rfl (enters_of Tryz.func132 (by kernel_rfl) rfl) fun w' b N hB hl hN lb R => by
        replace hl : rest.length = 1 := hl
        rw [hl] at hN R ⊢
        exact d_free (X.next hB) (q 4) (was_cellP hB (M.qc (q 4, .func (.func 70) #[] #[.pointer (some ⟨pl, 0, none⟩)]) (by simp [cmdQ]))) b N hN R (X.new_no lb)
    · exact do_some X m (cmdF pl q) M.own s _ rest hs hc _ hf (by decide) 72 pl rfl (enters_of Tryz.func72 (by kernel_rfl) rfl) fun w' b N hB hl hN lb R => by
        replace hl : rest.length = 1 := hl
        rw [hl] at hN R ⊢
        exact d_bake (X.next hB) b N hN R (X.new_no lb)
    · exact do_some X m (cmdF pl q) M.own s _ rest hs hc _ hf (by decide) 132 (q 6) rfl (enters_of Tryz.func132 (by kernel_rfl) rfl) fun w' b N hB hl hN lb R => by
        replace hl : rest.length = 1 := hl
        rw [hl] at hN R ⊢
        exact d_turn (X.next hB) (q 6) (was_cellP hB (M.qc (q 6, .func (.func 77) #[] #[.pointer (some ⟨pl, 0, none⟩)]) (by simp [cmdQ]))) b N hN R (X.new_no lb)
    · exact do_some X m (cmdF pl q) M.own s _ rest hs hc _ hf (by decide) 137 (q 7) rfl (enters_of Tryz.func137 (by kernel_rfl) rfl) fun w' b N hB hl hN lb R => by
        replace hl : rest.length = 1 := hl
        rw [hl] at hN R ⊢
        exact d_has (X.next hB) (q 7) (was_cellP hB (M.qc (q 7, .func (.func 80) #[] #[.pointer (some ⟨pl, 0, none⟩)]) (by simp [cmdQ]))) b N hN R (X.new_no lb)
    · exact do_some X m (cmdF pl q) M.own s _ rest hs hc _ hf (by decide) 137 (q 8) rfl (enters_of Tryz.func137 (by kernel_rfl) rfl) fun w' b N hB hl hN lb R => by
        replace hl : rest.length = 1 := hl
        rw [hl] at hN R ⊢
        exact d_staked (X.next hB) (q 8) (was_cellP hB (M.qc (q 8, .func (.func 82) #[] #[.pointer (some ⟨ss, 0, none⟩)]) (by simp [cmdQ]))) b N hN R (X.new_no lb)
    · exact do_some X m (cmdF pl q) M.own s _ rest hs hc _ hf (by decide) 137 (q 9) rfl (enters_of Tryz.func137 (by kernel_rfl) rfl) fun w' b N hB hl hN lb R => by
        replace hl : rest.length = 2 := hl
        rw [hl] at hN R ⊢
        exact d_value (X.next hB) (q 9) (was_cellP hB (M.qc (q 9, .func (.func 84) #[] #[.pointer (some ⟨ss, 0, none⟩)]) (by simp [cmdQ]))) b N hN R (X.new_no lb)
    · exact do_some X m (cmdF pl q) M.own s _ rest hs hc _ hf (by decide) 127 (q 5) rfl (enters_of Tryz.func127 (by kernel_rfl) rfl) fun w' b N hB hl hN lb R => by
        replace hl : rest.length = 0 := hl
        rw [hl] at hN R ⊢
        exact d_cycle (X.next hB) (q 5) (was_cellP hB (M.qc (q 5, .func (.func 75) #[] #[.pointer (some ⟨pl, 0, none⟩)]) (by simp [cmdQ]))) _
    · exact do_some X m (cmdF pl q) M.own s _ rest hs hc _ hf (by decide) 137 (q 11) rfl (enters_of Tryz.func137 (by kernel_rfl) rfl) fun w' b N hB hl hN lb R => by
        replace hl : rest.length = 0 := hl
        rw [hl] at hN R ⊢
        exact d_supply (X.next hB) (q 11) (was_cellP hB (M.qc (q 11, .func (.func 88) #[] #[.pointer (some ⟨pl, 0, none⟩)]) (by simp [cmdQ]))) _
    · exact do_some X m (cmdF pl q) M.own s _ rest hs hc _ hf (by decide) 137 (q 12) rfl (enters_of Tryz.func137 (by kernel_rfl) rfl) fun w' b N hB hl hN lb R => by
        replace hl : rest.length = 0 := hl
        rw [hl] at hN R ⊢
        exact d_bonus (X.next hB) (q 12) (was_cellP hB (M.qc (q 12, .func (.func 90) #[] #[.pointer (some ⟨pl, 0, none⟩)]) (by simp [cmdQ]))) _
    · exact do_some X m (cmdF pl q) M.own s _ rest hs hc _ hf (by decide) 92 pl rfl (enters_of Tryz.func92 (by kernel_rfl) rfl) fun w' b N hB hl hN lb R => by
        replace hl : rest.length = 0 := hl
        rw [hl] at hN R ⊢
        exact d_at (X.next hB) _
def AnswerEnd (sb : Nat) (F : Nat → Prop) (cb g : Nat) (C : Ch) (s : List UInt8) (w : World) (e : Ending) (w' : World) : Prop :=
  ∃ (t : List UInt8) (C' : Ch) (F' : Nat → Prop), e = .returned (.string (bs t)) ∧ Says C s t C' ∧ PCb sb F' w' cb C' (g + 8000) ∧ Moved F F' w w'
theorem methError (v : Value) (w : World) : (method 497 366 v "Error").run Tryz.prog w = .ok (352, v) w := by kernel_rfl
theorem error_of (a : Addr) (t : ByteArray) (w : World) (h : w.cell? a = some (.string t)) : Calls Tryz.prog 352 #[.pointer (some a)] w fun e w' => e = .returned (.string t) ∧ w' = w := by
  go_enter Tryz.func352, Tryz.ntmps352
  go_wp2
  go_ret
  exact ⟨rfl, rfl⟩
set_option maxRecDepth 100000 in
theorem answer_of (X : Ctx w0 w sb cb pl ss F C j g A) (M : Cm w F m cb sb pl ss q) (s : List UInt8) (hs : s.length ≤ 200) :
    Calls Tryz.prog 27 #[.map (some m), .string (bs s)] w (AnswerEnd sb F cb g C s w) := by
  have P := line_of X M s hs
  have XX := hide X
  clear X M
  go_enter Tryz.func27, Tryz.ntmps27
  go_wp2_with fail
  refine P.mono ?_
  rintro e w1 ⟨t, c, ev, C', F', rfl, hE, hS, hP, hM⟩
  have L1 := XX.out.laid.below (XX.out.mi.next hM).below
  have SS := hide hS
  clear P hS
  rcases hE with ⟨rfl, rfl⟩ | ⟨i, hi, rfl, rfl⟩
  · go_wp2_with fail
    go_ret
    exact ⟨t, C', F', rfl, by have := SS.out; rw [orT_no] at this; exact this, hP, hM⟩
  · have E := error_of (A i) _ w1 (L1.t i hi)
    have me := methError (.pointer (some (A i))) w1
    have es : Hid (orT ((i : Int) + 1) t = errT (i + 1)) := hide (if_pos (by omega))
    go_wp2_with (go_at_call 352; refine E.mono ?_; rintro e w2 ⟨rfl, hw⟩; rw [hw])
    go_ret
    exact ⟨_, C', F', rfl, by have := SS.out; rw [es.out] at this; exact this, hP, hM⟩
end
end Go.Proofs.YtmbfdhekplnoaaaGreatDoor

namespace Go.Proofs.YtmbfdhekplnoaaaGreatDoor
open Go.RowKit Go.Maps

set_option maxRecDepth 100000 in
theorem player_new (seed : Nat) (hs : seed < W64) (A : Nat → Addr) (w : World) (hL : ScLaid w A) :
    Calls Tryz.prog 25 #[.int .u64 seed] w fun e w' => ∃ cb F sb, e = .returned (.agg #[.pointer (some ⟨cb, 0, none⟩)]) ∧ PCb sb F w' cb (chNew seed) 10000 ∧ (∀ k, F k → w.heap.size ≤ k) ∧ Below w.heap.size w w' := by
  have hB0 : Below w.heap.size w (w.alloc (.cells #[.pointer none] 72)) := (Below.refl _ _).alloc (Nat.le_refl _) _
  have P := pcb_new seed hs A (w.alloc (.cells #[.pointer none] 72)) (hL.ch.e.below hB0)
  have k0 : (w.alloc (.cells #[.pointer none] 72)).cell? ⟨w.heap.size, 0, none⟩ = some (.pointer none) := cell_new _ _ _ _ _ _ rfl rfl
  have f0 : (w.alloc (.cells #[.pointer none] 72)).frozen? ⟨w.heap.size, 0, none⟩ = false := World.frozen?_alloc_at _ _ _ _ rfl
  have lt := cell_lt k0
  clear hL
  go_enter Tryz.func25, Tryz.ntmps25
  go_wp2_with fail
  refine P.mono ?_
  rintro e w1 ⟨cb, F, sb, rfl, hP, hF, hB1⟩
  have k1 := was_cellP hB1 k0
  have f1 : w1.frozen? ⟨w.heap.size, 0, none⟩ = false := by rw [hB1.frozen (p := ⟨w.heap.size, 0, none⟩) lt]; exact f0
  have nF : ¬ F w.heap.size := fun z => by have := hF _ z; omega
  have K : KeptP (fun q => q = w.heap.size) w1 (w1.setCell ⟨w.heap.size, 0, none⟩ (.pointer (some ⟨cb, 0, none⟩))) := (KeptP.refl (fun q => q = w.heap.size) w1).setCell (p := ⟨w.heap.size, 0, none⟩) rfl _
  have h2 := hP.keptP K fun q e z => nF (by rw [← e]; exact z)
  have B2 : Below w.heap.size w (w1.setCell ⟨w.heap.size, 0, none⟩ (.pointer (some ⟨cb, 0, none⟩))) := (hB0.trans (hB1.mono hB0.size)).setCell (Nat.le_refl _) _
  have hF2 : Hid (∀ k, F k → w.heap.size ≤ k) := hide fun k z => by have := hF k z; have := hB0.size; omega
  have c2 : (w1.setCell ⟨w.heap.size, 0, none⟩ (.pointer (some ⟨cb, 0, none⟩))).cell? ⟨w.heap.size, 0, none⟩ = some (.pointer (some ⟨cb, 0, none⟩)) := World.cell?_setCell_same _ _ _ (by rw [k1])
  clear P hP hF hB0 hB1 K k0 f0
  go_wp2_with fail
  exact bodyPost_ret (v := .agg #[.pointer (some ⟨cb, 0, none⟩)]) (by simp [results, Tryz.results25, go_sem, c2]) rfl ⟨cb, F, sb, rfl, h2, hF2.out, B2⟩
theorem made_texts (n : Nat) (h : n ≤ 300) (w : World) : (Instr.makeSlice 23 (.int .i64 (n : Int)) (.int .i64 (n : Int))).run Tryz.prog w = .ok (.slice (some ⟨w.heap.size, 0, none⟩) n n) (w.alloc (.cells (madeCells #[.string { data := #[] }] n) 9)) :=
  run_make_row' (P := Tryz.prog) 23 9 (.string { data := #[] }) 16 Tryz.underlying23 Tryz.infoStrT rfl .i64 .i64 n (by omega) (by omega) w
def textTo (O : Nat → List UInt8) (k : Nat) : Nat → Value := fun i => .string (bs (if i < k then O i else []))
theorem textTo_next (O : Nat → List UInt8) (k : Nat) (x : List UInt8) (j : Nat) : (if j = k then Value.string (bs x) else textTo O k j) = textTo (setT O k x) (k + 1) j := by
  unfold textTo setT
  by_cases e : j = k
  · subst e; simp
  · rw [if_neg e]
    by_cases l : j < k
    · rw [if_pos l, if_pos (by omega), if_neg e]
    · rw [if_neg l, if_neg (by omega)]
set_option maxRecDepth 100000 in
set_option maxHeartbeats 2000000 in
theorem sc_run (seed : Nat) (hs : seed < W64) (v : Value) (n : Nat) (hn : n ≤ 100) (L : Nat → List UInt8) (hl : ∀ i, i < n → (L i).length ≤ 200) (A : Nat → Addr) (w : World) (hL : ScLaid w A) (R : TextV w v n L) :
    Calls Tryz.prog 8 #[.int .u64 seed, v] w fun e w' => ∃ u O C, e = .returned (.tuple #[u, .nilIface]) ∧ SaidTo (chNew seed) L n O C ∧ TextV w' u n O ∧ Below w.heap.size w w' := by
  obtain ⟨a, cap, rfl, hcap, gT⟩ := id R
  have n1 : ¬ 100 < (n : Int) := by omega
  go_enter Tryz.func8, Tryz.ntmps8
  go_wp2_with fail
  refine (player_new seed hs A w hL).mono ?_
  rintro e w1 ⟨cb, F, sb, rfl, h1, hF, hB1⟩
  have m1 := Mine.new hF hB1
  go_wp2_with fail
  refine (commands_of F cb (chNew seed) 10000 w1 h1).mono ?_
  rintro e w2 ⟨m, pl, ss, q, rfl, T2⟩
  have h2 := h1.below T2.b
  have m2 := m1.nextB T2.b
  have no : ∀ {k}, w1.heap.size ≤ k → ¬ F k := fun {k} z y => by have := h1.lt k y; omega
  have M2 : Cm w2 F m cb sb pl ss q := ⟨T2.own, T2.q, no T2.mlo, fun x hx => no (T2.lo x hx)⟩
  have mk := made_texts n (by omega) w2
  have hB3 : Below w2.heap.size w2 (w2.alloc (.cells (madeCells #[.string { data := #[] }] n) 9)) := (Below.refl _ _).alloc (Nat.le_refl _) _
  have R3 := World.rowIs_made w2 (.string { data := #[] }) n 9
  have h3 := h2.below hB3
  have m3 := m2.nextB hB3
  have M3 := M2.moved (h2.stays hB3)
  have nF3 : ¬ F w2.heap.size := fun z => by have := h2.lt _ z; omega
  have wl : w.heap.size ≤ w2.heap.size := m2.size
  have nm3 : m ≠ w2.heap.size := fun z => by have := T2.own.lt; omega
  have nq3 : ∀ x, x ∈ cmdQ cb sb pl ss q → x.1 ≠ w2.heap.size := fun x hx z => by have := cell_lt (T2.q x hx); have : x.1 < w2.heap.size := this; omega
  clear h1 hB1 m1 T2 h2 m2 M2 no
  go_wp2_with fail
  generalize hB : w2.heap.size = B at *
  go_loopw [22] (fun i wr => ∃ (k : Nat) (O : Nat → List UInt8) (D : Ch) (F' : Nat → Prop), k ≤ n ∧ i = .int .i64 k ∧ Hid (SaidTo (chNew seed) L k O D) ∧ PCb sb F' wr cb D (10000 + 8000 * k) ∧ Mine w.heap.size w wr F' ∧ Cm wr F' m cb sb pl ss q ∧ wr.rowIs B 9 n (textTo O k) ∧ ¬ F' B) (fun i _ => n - (intOf i).toNat)
  case atStart => exact ⟨0, fun _ => [], chNew seed, F, Nat.zero_le _, rfl, hide rfl, h3, m3, M3, R3.congr fun i _ => rfl, nF3⟩
  case round =>
    obtain ⟨k, O, D, F', hk, rfl, said, hD, mi, M, RR, nF'⟩ := hrel
    clear h3 m3 M3 R3 nF3 mk hB3 n1
    by_cases hlt : k < n
    · obtain ⟨b, off, rfl, lb, cw⟩ := gT k hlt
      have c0 := was_cellP mi.below cw
      have q1 : (k : Int) < (n : Int) := by omega
      have ok := SaidTo.ok (chNew_ok seed hs) (chNew_fit seed) k said.out
      have X : Ctx w wr sb cb pl ss F' D (4 * k) (10000 + 8000 * k) A := ⟨ok.1, ok.2, by omega, by omega, hL, mi, hD, M.qc (pl, .pointer (some ⟨cb, 0, none⟩)) (by simp [cmdQ]), M.nq (pl, .pointer (some ⟨cb, 0, none⟩)) (by simp [cmdQ]), M.qc (ss, .pointer (some ⟨sb, 0, none⟩)) (by simp [cmdQ]), M.nq (ss, .pointer (some ⟨sb, 0, none⟩)) (by simp [cmdQ])⟩
      have P := answer_of X M (L k) (hl k hlt)
      have HL := hide hL
      have Hl := hide hl
      have HT := hide gT
      have HM := hide M
      have Hmi := hide mi
      have Hq := hide nq3
      clear X ok hL hl gT cw R M mi nq3
      go_wp2_with fail
      refine P.mono ?_
      rintro e w5 ⟨t, D1, F1, rfl, hS, h5, M5⟩
      have R1 := RR.of_block (M5.kept.block _ RR.lt nF')
      have nF1 : ¬ F1 B := fun z => nF' (M5.old _ RR.lt z)
      have c1 := R1.cell hlt
      have f1 := R1.frozen k
      have R2 := (R1.set k (.string (bs t))).congr fun i _ => textTo_next O k t i
      have K2 : KeptP (fun q => q = B) w5 (w5.setCell ⟨B, k, none⟩ (.string (bs t))) := (KeptP.refl (fun q => q = B) w5).setCell (p := ⟨B, k, none⟩) rfl _
      have h6 : PCb sb F1 (w5.setCell ⟨B, k, none⟩ (.string (bs t))) cb D1 (10000 + 8000 * (k + 1)) := (h5.keptP K2 fun q e z => nF1 (by rw [← e]; exact z)).more (by omega)
      have mi5 := Hmi.out.next M5
      have mi6 : Mine w.heap.size w (w5.setCell ⟨B, k, none⟩ (.string (bs t))) F1 := ⟨mi5.f, mi5.below.setCell (p := ⟨B, k, none⟩) wl _, Nat.le_trans mi5.size K2.size⟩
      have CM5 := HM.out.moved M5
      have CM6 : Cm (w5.setCell ⟨B, k, none⟩ (.string (bs t))) F1 m cb sb pl ss q := ⟨CM5.own.of_block (K2.block m CM5.own.lt nm3), fun x hx => K2.old (CM5.qc x hx) (Hq.out x hx), CM5.nm, CM5.nq⟩
      have SD : Hid (SaidTo (chNew seed) L (k + 1) (setT O k t) D1) := hide ⟨D, SaidTo.congr k (fun _ _ => rfl) (fun i hi => (setT_old O t hi).symm) said.out, by rw [setT_at]; exact hS⟩
      clear hS h5 M5 RR R1 K2 hD HM P CM5 mi5 Hmi
      go_wp2_with fail
      go_roundw
      case rel => exact ⟨k + 1, _, D1, F1, by omega, by go_num, SD, h6, mi6, CM6, R2, nF1⟩
      case measure => simp [intOf]; omega
    · obtain rfl : k = n := by omega
      have q1 : ¬ (k : Int) < (k : Int) := by omega
      have lB := RR.lt
      clear hl gT R
      go_wp2_with fail
      go_ret2
      exact ⟨_, rfl, O, ⟨D, said.out⟩, ⟨_, k, rfl, Nat.le_refl _, fun i hi => ⟨B, 0, rfl, lB, by rw [Nat.zero_add, RR.cell hi]; unfold textTo; rw [if_pos hi]⟩⟩, mi.below⟩
end Go.Proofs.YtmbfdhekplnoaaaGreatDoor

namespace Go.Proofs.YtmbfdhekplnoaaaGreatDoor

theorem Says.cmd {C C' : Ch} {wd : List UInt8} {ns : List Nat} {s o : List UInt8} (h : Says C s o C') (hc : IsCmd wd ns) (e : s = cmdText wd ns) : Ans C wd ns o C' := by
  rcases h with ⟨wd', ns', hc', hs, ha⟩ | ⟨hn, _⟩
  · obtain ⟨rfl, rfl⟩ := cmdText_inj hc hc' (e.symm.trans hs)
    exact ha
  · exact absurd e (hn wd ns hc)
theorem Ans.cyc_inv {C C' : Ch} {wd : List UInt8} {ns : List Nat} {o : List UInt8} (h : Ans C wd ns o C') (hw : wd = wCycle) : o = okT ∧ CycTo C.cyc C C' := by
  cases h <;> first
    | (exfalso; revert hw; decide)
    | (rename_i h; exact ⟨rfl, h⟩)
theorem CycTo.end {now : Nat} {C C' : Ch} (h : CycTo now C C') : C.cyc = C.lev / 4 → C.lev ≤ 4 * (now + 1) → C'.cyc = C'.lev / 4 ∧ C'.cyc ≠ now ∧ C'.lev ≤ 4 * (now + 1) ∧ C.lev ≤ C'.lev := by
  induction h with
  | done C h => exact fun y l => ⟨y, h, l, Nat.le_refl _⟩
  | more C C' h k T r ih =>
    intro y l
    have p := C.paid_same k
    have e1 : (C.bake k).lev = C.lev + 1 := by
      show (C.paid k).stepped.lev = _
      rw [Ch.stepped_lev, p.2.1]
    have e2 : (C.bake k).cyc = (C.lev + 1) / 4 := by
      show (C.paid k).stepped.cyc = _
      rw [Ch.stepped_cyc (by rw [p.1, p.2.1]; exact y), p.2.1]
    obtain ⟨a, b, c, d⟩ := ih (by rw [e1, e2]) (by rw [e1]; omega)
    exact ⟨a, b, c, by omega⟩
theorem isCmd_stake {a b n : Nat} (ha : a ≤ 9) (hb : b ≤ 9) (hn : n ≤ 9999999) : IsCmd wStake [a, b, n] := by
  refine ⟨[100, 100, 110], by decide, rfl, fun i hi => ?_⟩
  match i, hi with
  | 0, _ => exact ha
  | 1, _ => exact hb
  | 2, _ => exact hn
theorem isCmd_one {wd : List UInt8} (h : formL wd = some [100]) {a : Nat} (ha : a ≤ 9) : IsCmd wd [a] := by
  refine ⟨[100], h, rfl, fun i hi => ?_⟩
  match i, hi with
  | 0, _ => exact ha
theorem isCmd_none {wd : List UInt8} (h : formL wd = some []) : IsCmd wd [] := ⟨[], h, rfl, fun _ hi => absurd hi (Nat.not_lt_zero _)⟩
def hello1 : Ch := (chNew 3).stake 4 1 500
theorem hello_stake : (chNew 3).stakeC 4 1 500 = 0 := by decide
theorem hello_staked : (hello1.s.P 1).T = 1500 := by decide
theorem hello_has : hello1.p.s 4 = 9500 := by decide
theorem hello_cyc : hello1.cyc = 0 := by decide
theorem hello_lev : hello1.lev = 0 := by decide
def helloL : Nat → List UInt8
  | 0 => [115, 116, 97, 107, 101, 32, 52, 32, 49, 32, 53, 48, 48]
  | 1 => [115, 116, 97, 107, 101, 100, 32, 49]
  | 2 => [104, 97, 115, 32, 52]
  | 3 => wCycle
  | _ => wAt
def helloO : Nat → List UInt8
  | 0 => okT
  | 1 => [49, 53, 48, 48]
  | 2 => [57, 53, 48, 48]
  | 3 => okT
  | _ => [49, 32, 52]
theorem hello_said {O : Nat → List UInt8} {C : Ch} (h : SaidTo (chNew 3) helloL 5 O C) : ∀ i, i < 5 → O i = helloO i := by
  obtain ⟨C4, ⟨C3, ⟨C2, ⟨C1, ⟨C0, rfl, p0⟩, p1⟩, p2⟩, p3⟩, p4⟩ := h
  have a0 := (p0.cmd (isCmd_stake (a := 4) (b := 1) (n := 500) (by omega) (by omega) (by omega)) (by decide)).one (.stake 4 1 500)
  obtain ⟨o0, rfl⟩ := a0
  have a1 := (p1.cmd (isCmd_one (wd := wStaked) (by decide) (a := 1) (by omega)) (by decide)).one (.staked 1)
  obtain ⟨o1, rfl⟩ := a1
  have a2 := (p2.cmd (isCmd_one (wd := wHas) (by decide) (a := 4) (by omega)) (by decide)).one (.has 4)
  obtain ⟨o2, rfl⟩ := a2
  obtain ⟨o3, cy⟩ := (p3.cmd (isCmd_none (wd := wCycle) (by decide)) (by decide)).cyc_inv rfl
  have a4 := (p4.cmd (isCmd_none (wd := wAt) (by decide)) (by decide)).one .at
  obtain ⟨o4, rfl⟩ := a4
  obtain ⟨y, ne, l, _⟩ := cy.end (by show hello1.cyc = hello1.lev / 4; rw [hello_cyc, hello_lev]) (by show hello1.lev ≤ _; rw [hello_lev]; omega)
  have c0 : ((chNew 3).stake 4 1 500).cyc = 0 := hello_cyc
  have l4 : C.lev = 4 := by
    have e : ((chNew 3).stake (4 : Nat) (1 : Nat) (500 : Nat)).cyc = 0 := hello_cyc
    rw [e] at ne l
    omega
  intro i hi
  match i, hi with
  | 0, _ =>
    rw [o0]
    show orT ((chNew 3).stakeC 4 1 500) okT = okT
    rw [hello_stake]; rfl
  | 1, _ =>
    rw [o1]
    show dec ((hello1.s.P 1).T).toNat = _
    rw [hello_staked]; decide
  | 2, _ =>
    rw [o2]
    show dec (hello1.p.s 4).toNat = _
    rw [hello_has]; decide
  | 3, _ => exact o3
  | 4, _ =>
    rw [o4, y, l4]; decide
end Go.Proofs.YtmbfdhekplnoaaaGreatDoor

namespace Go.Proofs.YtmbfdhekplnoaaaGreatDoor
open Go.RowKit

theorem helloL_lies (w : World) : TextV (w.alloc (.cells #[.string { data := #[115, 116, 97, 107, 101, 32, 52, 32, 49, 32, 53, 48, 48] }, .string { data := #[115, 116, 97, 107, 101, 100, 32, 49] }, .string { data := #[104, 97, 115, 32, 52] }, .string { data := #[99, 121, 99, 108, 101] }, .string { data := #[97, 116] }] 9)) (.slice (some ⟨w.heap.size, 0, none⟩) 5 5) 5 helloL := by
  refine ⟨_, _, rfl, Nat.le_refl _, fun i hi => ⟨w.heap.size, 0, rfl, by simp, ?_⟩⟩
  match i, hi with
  | 0, _ => simp; rfl
  | 1, _ => simp; rfl
  | 2, _ => simp; rfl
  | 3, _ => simp; rfl
  | 4, _ => simp; rfl
theorem helloO_lies (w : World) : TextV (w.alloc (.cells #[.string { data := #[111, 107] }, .string { data := #[49, 53, 48, 48] }, .string { data := #[57, 53, 48, 48] }, .string { data := #[111, 107] }, .string { data := #[49, 32, 52] }] 9)) (.slice (some ⟨w.heap.size, 0, none⟩) 5 5) 5 helloO := by
  refine ⟨_, _, rfl, Nat.le_refl _, fun i hi => ⟨w.heap.size, 0, rfl, by simp, ?_⟩⟩
  match i, hi with
  | 0, _ => simp; rfl
  | 1, _ => simp; rfl
  | 2, _ => simp; rfl
  | 3, _ => simp; rfl
  | 4, _ => simp; rfl
theorem helloL_len : ∀ i, i < 5 → (helloL i).length ≤ 200 := by decide
set_option maxRecDepth 100000 in
set_option maxHeartbeats 1000000 in
theorem hello_of (A : Nat → Addr) (w : World) (hL : ScLaid w A) :
    Calls Tryz.prog 7 #[] w fun e w' => e = .returned (.bool true) ∧ Below w.heap.size w w' := by
  have hB1 : Below w.heap.size w (w.alloc (.cells #[.string { data := #[115, 116, 97, 107, 101, 32, 52, 32, 49, 32, 53, 48, 48] }, .string { data := #[115, 116, 97, 107, 101, 100, 32, 49] }, .string { data := #[104, 97, 115, 32, 52] }, .string { data := #[99, 121, 99, 108, 101] }, .string { data := #[97, 116] }] 9)) := (Below.refl _ _).alloc (Nat.le_refl _) _
  have T1 := helloL_lies w
  go_enter Tryz.func7, Tryz.ntmps7
  go_wp2_with fail
  refine (sc_run 3 (by decide) _ 5 (by omega) helloL helloL_len A _ (hL.below hB1) T1).mono ?_
  rintro e w2 ⟨u, O, C, rfl, said, V, hB2⟩
  have V2 := V.congr (hello_said said)
  have B2 := hB1.trans (hB2.mono hB1.size)
  clear V said T1 hB1 hB2
  obtain ⟨a, cap, rfl, _⟩ := id V2
  have hB3 : Below w2.heap.size w2 (w2.alloc (.cells #[.string { data := #[111, 107] }, .string { data := #[49, 53, 48, 48] }, .string { data := #[57, 53, 48, 48] }, .string { data := #[111, 107] }, .string { data := #[49, 32, 52] }] 9)) := (Below.refl _ _).alloc (Nat.le_refl _) _
  have V3 := V2.below hB3
  have B3 := B2.trans (hB3.mono B2.size)
  clear V2 B2 hB3
  go_wp2_with fail
  refine (sameTexts_of _ _ 5 (by omega) helloO _ V3 (helloO_lies w2)).mono ?_
  rintro e w4 ⟨rfl, m, hw⟩
  have B4 : Below w.heap.size w w4 := by rw [hw]; exact below_drewN B3 m
  clear hw B3 V3
  go_wp2_with fail
  go_ret
  exact ⟨rfl, B4⟩
end Go.Proofs.YtmbfdhekplnoaaaGreatDoor
