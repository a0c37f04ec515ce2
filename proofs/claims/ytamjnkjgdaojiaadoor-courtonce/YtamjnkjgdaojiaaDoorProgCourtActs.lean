/-
  The program's court by its contracts: evidence is brought.
-/
import Derived.Test.YtamjnkjgdaojiaaDoorProgCourt
import Derived.Test.YtamjnkjgdaojiaaDoorBound
import Derived.Deep.AppendLies
import Derived.Deep.RegionLaw
import Derived.Deep.DeepCutAuto
import Derived.Deep.QuietTactic
import Derived.BigQuiet
namespace Go.Proofs.YtamjnkjgdaojiaaDoor
open Go.RowKit

theorem ctb_yes (b : Int) (h0 : 0 ≤ b) (h3 : b < 3) (w : World) :
    Calls Tryd.prog 41 #[.int .i64 b] w fun e w' => e = .returned (.bool true) ∧ w' = w := by
  go_enter Tryd.func41, Tryd.ntmps41
  go_wp2
  go_ret
  exact ⟨rfl, rfl⟩
theorem ctb_no (b : Int) (h : ¬ (0 ≤ b ∧ b < 3)) (w : World) :
    Calls Tryd.prog 41 #[.int .i64 b] w fun e w' => e = .returned (.bool false) ∧ w' = w := by
  by_cases h0 : 0 ≤ b
  · have h3 : ¬ b < 3 := by omega
    clear h
    go_enter Tryd.func41, Tryd.ntmps41
    go_wp2
    go_ret
    exact ⟨rfl, rfl⟩
  · clear h
    go_enter Tryd.func41, Tryd.ntmps41
    go_wp2
    go_ret
    exact ⟨rfl, rfl⟩
theorem cty_yes (c : Int) (h0 : 0 ≤ c) (h1 : c ≤ 1048576) (w : World) :
    Calls Tryd.prog 42 #[.int .i64 c] w fun e w' => e = .returned (.bool true) ∧ w' = w := by
  go_enter Tryd.func42, Tryd.ntmps42
  go_wp2
  go_ret
  exact ⟨rfl, rfl⟩
theorem cty_no (c : Int) (h : ¬ (0 ≤ c ∧ c ≤ 1048576)) (w : World) :
    Calls Tryd.prog 42 #[.int .i64 c] w fun e w' => e = .returned (.bool false) ∧ w' = w := by
  by_cases h0 : 0 ≤ c
  · have h3 : ¬ c ≤ 1048576 := by omega
    clear h
    go_enter Tryd.func42, Tryd.ntmps42
    go_wp2
    go_ret
    exact ⟨rfl, rfl⟩
  · clear h
    go_enter Tryd.func42, Tryd.ntmps42
    go_wp2
    go_ret
    exact ⟨rfl, rfl⟩

theorem isf_yes (y c : Int) (h0 : 0 ≤ y) (h1 : y ≤ c) (h2 : c - 2 ≤ y) (h3 : c ≤ 1048576) (w : World) :
    Calls Tryd.prog 43 #[.int .i64 y, .int .i64 c] w fun e w' => e = .returned (.bool true) ∧ w' = w := by
  go_enter Tryd.func43, Tryd.ntmps43
  go_wp2
  go_ret
  exact ⟨rfl, rfl⟩
theorem isf_no (y c : Int) (c0 : 0 ≤ c) (c1 : c ≤ 1048576) (h : ¬ (0 ≤ y ∧ y ≤ c ∧ c - 2 ≤ y)) (w : World) :
    Calls Tryd.prog 43 #[.int .i64 y, .int .i64 c] w fun e w' => e = .returned (.bool false) ∧ w' = w := by
  by_cases h0 : 0 ≤ y
  · by_cases h1 : y ≤ c
    · have h2 : ¬ c - 2 ≤ y := fun q => h ⟨h0, h1, q⟩
      clear h
      go_enter Tryd.func43, Tryd.ntmps43
      go_wp2
      go_ret
      exact ⟨rfl, rfl⟩
    · clear h
      go_enter Tryd.func43, Tryd.ntmps43
      go_wp2
      go_ret
      exact ⟨rfl, rfl⟩
  · clear h
    go_enter Tryd.func43, Tryd.ntmps43
    go_wp2
    go_ret
    exact ⟨rfl, rfl⟩

/-- what comes of it -/
def AccEnd (F : Nat → Prop) (cb : Nat) (x : Ct) (g : Nat) (o : Int) (e : Ev) (c : Int) (A : Nat → Addr) (w : World) (en : Ending) (w' : World) : Prop :=
  ∃ ev F', en = .returned ev ∧ ErrIs A ev (x.accC o e c) ∧ PCt F' w' cb (x.acc o e c) (g + 4) ∧ Moved F F' w w'
theorem acc_no {F : Nat → Prop} {cb g : Nat} {x : Ct} {o c : Int} {e : Ev} {A : Nat → Addr} {w w' : World} (h : PCt F w cb x g) (i : Nat) (hi : i < 10) (hc : x.accC o e c = i + 1) (hB : Below w.heap.size w w') : AccEnd F cb x g o e c A w (.returned (sent (A i))) w' := by
  have ha : x.acc o e c = x := if_neg (by omega)
  refine ⟨_, F, rfl, .inr ⟨i, hi, hc, rfl⟩, ?_, KeptP.of_below hB, fun _ _ q => q⟩
  rw [ha]
  exact (h.keptP (KeptP.of_below (F := fun _ => False) hB) fun _ q => q.elim).more (by omega)
theorem accC_bound {x : Ct} {o c : Int} {e : Ev} (h : ¬ AccIn o e c) : x.accC o e c = 2 := if_pos h
theorem accC_old {x : Ct} {o c : Int} {e : Ev} (h : AccIn o e c) (k : ¬ AccNow e c) : x.accC o e c = 10 := by
  unfold Ct.accC; rw [if_neg (not_not_intro h), if_pos k]
theorem accC_seen {x : Ct} {o c : Int} {e : Ev} (h : AccIn o e c) (k : AccNow e c) (s : x.seen e = true) : x.accC o e c = 5 := by
  unfold Ct.accC; rw [if_neg (not_not_intro h), if_neg (not_not_intro k), if_pos s]
theorem accC_new {x : Ct} {o c : Int} {e : Ev} (h : AccIn o e c) (k : AccNow e c) (s : x.seen e = false) : x.accC o e c = 0 := by
  unfold Ct.accC; rw [if_neg (not_not_intro h), if_neg (not_not_intro k), s]; rfl

set_option maxRecDepth 100000 in
set_option maxHeartbeats 1000000 in
theorem acc_bound (F : Nat → Prop) (cb : Nat) (x : Ct) (g : Nat) (o b y m c : Int) (hb : ¬ AccIn o (b, y, m) c) (A : Nat → Addr) (w : World) (hL : CtLaid w A) (h : PCt F w cb x g) :
    Calls Tryd.prog 32 #[.pointer (some ⟨cb, 0, none⟩), .int .i64 o, .agg #[.int .i64 b, .int .i64 y, .int .i64 m], .int .i64 c] w (AccEnd F cb x g o (b, y, m) c A w) := by
  have v1 := hL.v1
  have B : Below w.heap.size w (w.alloc (.cells #[.int .i64 b, .int .i64 y, .int .i64 m] 53)) := (Below.refl _ _).alloc (Nat.le_refl _) _
  have v1' := (hL.below B).v1
  have E := hide (accC_bound (x := x) hb)
  by_cases ho : 0 ≤ o ∧ o < 6
  · have O := owner_yes o ho.1 ho.2
    by_cases hk : 0 ≤ b ∧ b < 3
    · have K := ctb_yes b hk.1 hk.2
      by_cases hm : 0 ≤ m
      · have Y := cty_no c (fun q => hb ⟨ho, hk, hm, q⟩)
        clear hb ho hk
        go_enter Tryd.func32, Tryd.ntmps32
        go_wp2_with (first | (go_at_call 36; refine (O _).mono ?_; rintro e w' ⟨rfl, rfl⟩) | (go_at_call 41; refine (K _).mono ?_; rintro e w' ⟨rfl, rfl⟩) | (go_at_call 42; refine (Y _).mono ?_; rintro e w' ⟨rfl, rfl⟩))
        go_ret
        exact acc_no h 1 (by omega) E.out B
      · clear hb ho hk
        go_enter Tryd.func32, Tryd.ntmps32
        go_wp2_with (first | (go_at_call 36; refine (O _).mono ?_; rintro e w' ⟨rfl, rfl⟩) | (go_at_call 41; refine (K _).mono ?_; rintro e w' ⟨rfl, rfl⟩))
        go_ret
        exact acc_no h 1 (by omega) E.out B
    · have K := ctb_no b hk
      clear hb ho hk
      go_enter Tryd.func32, Tryd.ntmps32
      go_wp2_with (first | (go_at_call 36; refine (O _).mono ?_; rintro e w' ⟨rfl, rfl⟩) | (go_at_call 41; refine (K _).mono ?_; rintro e w' ⟨rfl, rfl⟩))
      go_ret
      exact acc_no h 1 (by omega) E.out B
  · have O := owner_no o ho
    clear hb ho
    go_enter Tryd.func32, Tryd.ntmps32
    go_wp2_with (go_at_call 36; refine (O _).mono ?_; rintro e w' ⟨rfl, rfl⟩)
    go_ret
    exact acc_no h 1 (by omega) E.out B
set_option maxRecDepth 100000 in
set_option maxHeartbeats 1000000 in
theorem acc_old (F : Nat → Prop) (cb : Nat) (x : Ct) (g : Nat) (o b y m c : Int) (hb : AccIn o (b, y, m) c) (hn : ¬ AccNow (b, y, m) c) (A : Nat → Addr) (w : World) (hL : CtLaid w A) (h : PCt F w cb x g) :
    Calls Tryd.prog 32 #[.pointer (some ⟨cb, 0, none⟩), .int .i64 o, .agg #[.int .i64 b, .int .i64 y, .int .i64 m], .int .i64 c] w (AccEnd F cb x g o (b, y, m) c A w) := by
  have B : Below w.heap.size w (w.alloc (.cells #[.int .i64 b, .int .i64 y, .int .i64 m] 53)) := (Below.refl _ _).alloc (Nat.le_refl _) _
  have v9' := (hL.below B).v9
  have E := hide (accC_old (x := x) hb hn)
  obtain ⟨ho, hk, hm, hc⟩ := hb
  have O := owner_yes o ho.1 ho.2
  have K := ctb_yes b hk.1 hk.2
  have Y := cty_yes c hc.1 hc.2
  obtain ⟨c0, c1⟩ := hc
  have hm' : 0 ≤ m := hm
  clear ho hk hm
  have Z := isf_no y c c0 c1 hn
  clear hn
  go_enter Tryd.func32, Tryd.ntmps32
  go_wp2_with (first | (go_at_call 36; refine (O _).mono ?_; rintro e w' ⟨rfl, rfl⟩) | (go_at_call 41; refine (K _).mono ?_; rintro e w' ⟨rfl, rfl⟩) | (go_at_call 42; refine (Y _).mono ?_; rintro e w' ⟨rfl, rfl⟩) | (go_at_call 43; refine (Z _).mono ?_; rintro e w' ⟨rfl, rfl⟩))
  go_ret
  exact acc_no h 9 (by omega) E.out B
theorem Tryd.infoCaseP : (Tryd.prog.info? 60).map (fun i => (i.zero, i.size, i.bytes)) = some (some (.agg #[.int .i64 0, .int .i64 0, .int .i64 0, .int .i64 0]), 4, 32) := by kernel_rfl
/-- a case more -/
theorem acc_placed {w1 w2 : World} {cb q g : Nat} {v : Value} {x : Ct} (t : Cs) (hx : x.Ok) (c0 : w1.cell? ⟨cb, 0, none⟩ = some (.map (some q))) (c1 : w1.cell? ⟨cb, 1, none⟩ = some v) (f1 : w1.frozen? ⟨cb, 1, none⟩ = false)
    (own : OwnE w1 q (fun e => decide (e = t.2) || x.seen e) g) (tv : v.ownBlock ≠ some cb) (tm : v.ownBlock ≠ some q) (ne : q ≠ cb) (wfs : ∀ u, u ∈ x.L → EvWf u.2) (ht : EvWf t.2) {b cap : Nat}
    (hown : w2.ownsRow 0 60 4 (.slice (some ⟨b, 0, none⟩) (x.due.length + 1) cap) (x.due.length + 1) (crow x.due ++ [.int .i64 t.1, .int .i64 t.2.1, .int .i64 t.2.2.1, .int .i64 t.2.2.2])) (hg : w1.grownBy w2 v.ownBlock) (hat : v.ownBlock = some b ∨ w1.heap.size ≤ b) :
    PCtAt (w2.setCell ⟨cb, 1, none⟩ (.slice (some ⟨b, 0, none⟩) (x.due.length + 1) cap)) cb q (.slice (some ⟨b, 0, none⟩) (x.due.length + 1) cap) ⟨x.L ++ [t], x.done⟩ g := by
  have hK1 : KeptP (fun k => v.ownBlock = some k) w1 w2 := ⟨hg.os, hg.tape, hg.output, hg.size, fun k hk z => hg.block k hk fun e => z e.symm⟩
  have lc := cell_lt c0
  have lq := own.lt
  have bc : b ≠ cb := by
    rcases hat with a | a
    · exact fun e => tv (e ▸ a)
    · exact fun e => by subst e; exact absurd lc (Nat.not_lt.2 a)
  have bq : b ≠ q := by
    rcases hat with a | a
    · exact fun e => tm (e ▸ a)
    · exact fun e => by subst e; exact absurd lq (Nat.not_lt.2 a)
  have hK2 : KeptP (fun k => k = cb) w2 (w2.setCell ⟨cb, 1, none⟩ (.slice (some ⟨b, 0, none⟩) (x.due.length + 1) cap)) := KeptP.setCell (F := fun k => k = cb) (KeptP.refl _ _) (p := ⟨cb, 1, none⟩) rfl _
  have dd : (⟨x.L ++ [t], x.done⟩ : Ct).due = x.due ++ [t] := by
    show (x.L ++ [t]).drop x.done = x.L.drop x.done ++ [t]
    exact List.drop_append_of_le_length hx.le
  refine ⟨?_, World.cell?_setCell_same _ _ _ (hK1.old c1 tv), ?_, ?_, ?_, fun e => ?_, fun e => ?_, ne, fun u hu => ?_⟩
  · rw [World.cell?_setCell_other _ _ _ _ (by simp)]; exact hK1.old c0 tv
  · rw [World.frozen?_setCell, hK1.frozen (p := ⟨cb, 1, none⟩) lc tv]; exact f1
  · refine ((own.of_block (hK1.block q lq tm)).of_block (hK2.block q (Nat.lt_of_lt_of_le lq hK1.size) ne)).congr fun e _ => ?_
    show (decide (e = t.2) || x.L.any fun u => decide (u.2 = e)) = (x.L ++ [t]).any fun u => decide (u.2 = e)
    rw [List.any_append, Bool.or_comm]
    simp [eq_comm]
  · rw [dd, List.length_append, crow_append]
    exact ownsRow_keptP hown hK2 fun k e => by cases e; exact bc
  · cases e; exact bc rfl
  · cases e; exact bq rfl
  · rcases List.mem_append.1 (show u ∈ x.L ++ [t] from hu) with z | z
    · exact wfs u z
    · rw [List.mem_singleton.1 z]; exact ht
set_option maxRecDepth 100000 in
set_option maxHeartbeats 1000000 in
theorem acc_seen (F : Nat → Prop) (cb : Nat) (x : Ct) (g : Nat) (o b y m c : Int) (hb : AccIn o (b, y, m) c) (hn : AccNow (b, y, m) c) (he : EvWf (b, y, m)) (hs : x.seen (b, y, m) = true) (A : Nat → Addr) (w : World) (hL : CtLaid w A) (h : PCt F w cb x g) :
    Calls Tryd.prog 32 #[.pointer (some ⟨cb, 0, none⟩), .int .i64 o, .agg #[.int .i64 b, .int .i64 y, .int .i64 m], .int .i64 c] w (AccEnd F cb x g o (b, y, m) c A w) := by
  have B : Below w.heap.size w (w.alloc (.cells #[.int .i64 b, .int .i64 y, .int .i64 m] 53)) := (Below.refl _ _).alloc (Nat.le_refl _) _
  have v4' := (hL.below B).v4
  have E := hide (accC_seen (x := x) hb hn hs)
  obtain ⟨ho, hk, hm, hc⟩ := hb
  have O := owner_yes o ho.1 ho.2
  have K := ctb_yes b hk.1 hk.2
  have Y := cty_yes c hc.1 hc.2
  obtain ⟨c0, c1⟩ := hc
  have hm' : 0 ≤ m := hm
  obtain ⟨y0, y1, y2⟩ : 0 ≤ y ∧ y ≤ c ∧ c - 2 ≤ y := hn
  have Z := isf_yes y c y0 y1 y2 c1
  clear ho hk hm
  have HH := hide h
  obtain ⟨q, v, hF, h⟩ := h
  have h1 := h.keptP (KeptP.of_below (F := fun _ => False) B) (fun z => z) (fun z => z) (fun _ _ z => z)
  have k0 := h1.c0
  have B2 : Below w.heap.size w ((w.alloc (.cells #[.int .i64 b, .int .i64 y, .int .i64 m] 53)).alloc (.cells #[] 76)) := B.alloc (by simp) _
  have h2 := h.keptP (KeptP.of_below (F := fun _ => False) B2) (fun z => z) (fun z => z) (fun _ _ z => z)
  have k2 := h2.c0
  have v42 := (hL.below B2).v4
  have lk : (Instr.lookup 72 (.map (some q)) (.agg #[.int .i64 b, .int .i64 y, .int .i64 m]) true).run Tryd.prog (w.alloc (.cells #[.int .i64 b, .int .i64 y, .int .i64 m] 53)).drew = .ok (.tuple #[.agg #[], .bool true]) (w.alloc (.cells #[.int .i64 b, .int .i64 y, .int .i64 m] 53)).drew := by
    have := (h1.own.of_block (w' := (w.alloc (.cells #[.int .i64 b, .int .i64 y, .int .i64 m] 53)).drew) rfl).look (b, y, m) he
    rw [hs] at this
    exact this
  have lk2 : (Instr.lookup 72 (.map (some q)) (.agg #[.int .i64 b, .int .i64 y, .int .i64 m]) true).run Tryd.prog ((w.alloc (.cells #[.int .i64 b, .int .i64 y, .int .i64 m] 53)).alloc (.cells #[] 76)).drew = .ok (.tuple #[.agg #[], .bool true]) ((w.alloc (.cells #[.int .i64 b, .int .i64 y, .int .i64 m] 53)).alloc (.cells #[] 76)).drew := by
    have := (h2.own.of_block (w' := ((w.alloc (.cells #[.int .i64 b, .int .i64 y, .int .i64 m] 53)).alloc (.cells #[] 76)).drew) rfl).look (b, y, m) he
    rw [hs] at this
    exact this
  clear h h1 h2
  go_enter Tryd.func32, Tryd.ntmps32
  go_wp2_with (first | (go_at_call 36; refine (O _).mono ?_; rintro e w' ⟨rfl, rfl⟩) | (go_at_call 41; refine (K _).mono ?_; rintro e w' ⟨rfl, rfl⟩) | (go_at_call 42; refine (Y _).mono ?_; rintro e w' ⟨rfl, rfl⟩) | (go_at_call 43; refine (Z _).mono ?_; rintro e w' ⟨rfl, rfl⟩))
  go_region
  all_goals
    go_wp2_with fail
    go_ret
    exact acc_no HH.out 4 (by omega) E.out (below_drewN B2 1)
set_option maxRecDepth 100000 in
set_option maxHeartbeats 1000000 in
theorem acc_new (F : Nat → Prop) (cb : Nat) (x : Ct) (g : Nat) (o b y m c : Int) (hb : AccIn o (b, y, m) c) (hn : AccNow (b, y, m) c) (he : EvWf (b, y, m)) (hs : x.seen (b, y, m) = false) (hx : x.Ok) (hl : x.L.length ≤ 900) (hg : g ≤ 900000) (A : Nat → Addr) (w : World) (_hL : CtLaid w A) (h : PCt F w cb x g) :
    Calls Tryd.prog 32 #[.pointer (some ⟨cb, 0, none⟩), .int .i64 o, .agg #[.int .i64 b, .int .i64 y, .int .i64 m], .int .i64 c] w (AccEnd F cb x g o (b, y, m) c A w) := by
  have B : Below w.heap.size w (w.alloc (.cells #[.int .i64 b, .int .i64 y, .int .i64 m] 53)) := (Below.refl _ _).alloc (Nat.le_refl _) _
  have E := hide (accC_new (x := x) hb hn hs)
  obtain ⟨ho, hk, hm, hc⟩ := hb
  have O := owner_yes o ho.1 ho.2
  have K := ctb_yes b hk.1 hk.2
  have Y := cty_yes c hc.1 hc.2
  obtain ⟨c0, c1⟩ := hc
  have hm' : 0 ≤ m := hm
  obtain ⟨y0, y1, y2⟩ : 0 ≤ y ∧ y ≤ c ∧ c - 2 ≤ y := hn
  have Z := isf_yes y c y0 y1 y2 c1
  clear ho hk hm
  have HH := hide h
  obtain ⟨q, v, hF, h⟩ := h
  have h1 := h.keptP (KeptP.of_below (F := fun _ => False) B) (fun z => z) (fun z => z) (fun _ _ z => z)
  have k0 := h1.c0
  have B2 : Below w.heap.size w ((w.alloc (.cells #[.int .i64 b, .int .i64 y, .int .i64 m] 53)).alloc (.cells #[] 76)) := B.alloc (by simp) _
  have h2 := h.keptP (KeptP.of_below (F := fun _ => False) B2) (fun z => z) (fun z => z) (fun _ _ z => z)
  have k2 := h2.c0
  have lk : (Instr.lookup 72 (.map (some q)) (.agg #[.int .i64 b, .int .i64 y, .int .i64 m]) true).run Tryd.prog (w.alloc (.cells #[.int .i64 b, .int .i64 y, .int .i64 m] 53)).drew = .ok (.tuple #[.agg #[], .bool false]) (w.alloc (.cells #[.int .i64 b, .int .i64 y, .int .i64 m] 53)).drew := by
    have := (h1.own.of_block (w' := (w.alloc (.cells #[.int .i64 b, .int .i64 y, .int .i64 m] 53)).drew) rfl).look (b, y, m) he
    rw [hs] at this
    exact this
  have lk2 : (Instr.lookup 72 (.map (some q)) (.agg #[.int .i64 b, .int .i64 y, .int .i64 m]) true).run Tryd.prog ((w.alloc (.cells #[.int .i64 b, .int .i64 y, .int .i64 m] 53)).alloc (.cells #[] 76)).drew = .ok (.tuple #[.agg #[], .bool false]) ((w.alloc (.cells #[.int .i64 b, .int .i64 y, .int .i64 m] 53)).alloc (.cells #[] 76)).drew := by
    have := (h2.own.of_block (w' := ((w.alloc (.cells #[.int .i64 b, .int .i64 y, .int .i64 m] 53)).alloc (.cells #[] 76)).drew) rfl).look (b, y, m) he
    rw [hs] at this
    exact this
  have H2 := hide h2
  clear h1 h2
  go_enter Tryd.func32, Tryd.ntmps32
  go_upto_region 5 with (first | (go_at_call 36; refine (O _).mono ?_; rintro e w' ⟨rfl, rfl⟩) | (go_at_call 41; refine (K _).mono ?_; rintro e w' ⟨rfl, rfl⟩) | (go_at_call 42; refine (Y _).mono ?_; rintro e w' ⟨rfl, rfl⟩) | (go_at_call 43; refine (Z _).mono ?_; rintro e w' ⟨rfl, rfl⟩))
  go_cut [9, 10] (fun _ ok wx => ok = .bool false ∧ wx = ((w.alloc (.cells #[.int .i64 b, .int .i64 y, .int .i64 m] 53)).alloc (.cells #[] 76)).drew)
  case first =>
    go_region
    all_goals
      go_wp2_with fail
      go_meet
      exact ⟨rfl, rfl⟩
  case rest =>
    obtain ⟨rfl, hwc⟩ := hcut
    have K2 : KeptP (fun _ => False) w wc := by rw [hwc]; exact (KeptP.of_below (F := fun _ => False) B2).drew
    have P2 := h.keptP K2 (fun z => z) (fun z => z) (fun _ _ z => z)
    have s0 : wc.cell? ⟨w.heap.size, 0, none⟩ = some (.int .i64 b) := by rw [hwc]; simp
    have s1 : wc.cell? ⟨w.heap.size, 1, none⟩ = some (.int .i64 y) := by rw [hwc]; simp
    have s2 : wc.cell? ⟨w.heap.size, 2, none⟩ = some (.int .i64 m) := by rw [hwc]; simp
    clear hwc lk lk2 k0 k2 H2 B B2 O K Y Z
    have c0 := P2.c0
    obtain ⟨n, D, ho, hn', r⟩ := (P2.own.of_block (w' := wc.drew) rfl)
    obtain ⟨w5, run5, own5, grown5⟩ := ho.update evKeyed Tryd.underlying72 (by unfold maxLen; omega) (ev_key (b, y, m) he) unitElem_mk
    have O5 := OwnE.put he ho.isMap own5 hn' r
    have K5 : KeptP (fun k => k = q) wc.drew w5 := ⟨grown5.os, grown5.tape, grown5.output, grown5.size, fun k hk z => grown5.block k hk fun e => z (by cases e; rfl)⟩
    have S1 : Hid (x.acc o (b, y, m) c = ⟨x.L ++ [(o, b, y, m)], x.done⟩) := if_pos E.out
    have nq := P2.ne
    have wfs := P2.wfs
    have tv := P2.tv
    have tm := P2.tm
    have e0 : w.heap.size ≠ q := Nat.ne_of_gt h.own.lt
    have d0 := K5.old (p := ⟨cb, 0, none⟩) c0 (fun e => nq e.symm)
    have d1 := K5.old (p := ⟨cb, 1, none⟩) P2.c1 (fun e => nq e.symm)
    have f1 : w5.frozen? ⟨cb, 1, none⟩ = false := by rw [K5.frozen (p := ⟨cb, 1, none⟩) (cell_lt P2.c1) (fun e => nq e.symm)]; exact P2.f1
    have row5 := ownsRow_keptP (ownsRow_keptP P2.row ((KeptP.refl (fun _ => False) wc).drew) fun _ _ z => z) K5 fun k e z => tm (by rw [e, z])
    have t0 := K5.old (p := ⟨w.heap.size, 0, none⟩) s0 e0
    have t1 := K5.old (p := ⟨w.heap.size, 1, none⟩) s1 e0
    have t2 := K5.old (p := ⟨w.heap.size, 2, none⟩) s2 e0
    obtain ⟨a, cap, hv⟩ := P2.shape
    have ll : x.due.length ≤ 900 := by
      have : x.due.length ≤ x.L.length := by unfold Ct.due; rw [List.length_drop]; omega
      omega
    have M5 : KeptP F w w5 := (K2.drew.mono (G := F) fun _ _ z => z.elim).trans K5 fun k _ z => (hF k).2 (.inr (.inl z))
    go_wp2_with fail
    go_region
    clear P2 K5 K2 c0 s0 s1 s2 h own5 ho r run5 grown5
    subst hv
    go_wp2_with fail
    have B7 : Below w5.heap.size w5 (w5.drew.alloc (.cells #[.int .i64 o, .int .i64 b, .int .i64 y, .int .i64 m] 60)) := below_drewN (Below.refl _ _) 1 |>.alloc (Nat.le_refl _) _
    have K7 : KeptP (fun _ => False) w5 (w5.drew.alloc (.cells #[.int .i64 o, .int .i64 b, .int .i64 y, .int .i64 m] 60)) := KeptP.of_below B7
    have r7 := ownsRow_keptP row5 K7 fun _ _ z => z
    have a0 := K7.old d0 (fun z => z)
    have a1 := K7.old d1 (fun z => z)
    have af : (w5.drew.alloc (.cells #[.int .i64 o, .int .i64 b, .int .i64 y, .int .i64 m] 60)).frozen? ⟨cb, 1, none⟩ = false := by rw [K7.frozen (p := ⟨cb, 1, none⟩) (cell_lt d1) (fun z => z)]; exact f1
    have aO := O5.of_block (K7.block q O5.lt (fun z => z))
    obtain ⟨i0, hi, hz0, hz1, hz2⟩ := info_parts Tryd.infoCaseP
    have N6 : ∀ j u, [Value.int .i64 o, .int .i64 b, .int .i64 y, .int .i64 m][j]? = some u → (w5.drew.alloc (.cells #[.int .i64 o, .int .i64 b, .int .i64 y, .int .i64 m] 60)).cell? ((⟨w5.heap.size, 0, none⟩ : Addr).add j) = some u := World.news_of_block (heap_alloc_new w5.drew _)
    have one : ∀ u ∈ [Value.int .i64 o, .int .i64 b, .int .i64 y, .int .i64 m], u.oneCell' = true := by simp [Value.oneCell']
    have l63 : x.due.length + 1 ≤ maxLen := by simp only [maxLen]; omega
    have l64 : (x.due.length + 1) * 32 ≤ 140737488355328 := by omega
    have lc := cell_lt a1
    have c8 : (w5.alloc (.cells #[.int .i64 o, .int .i64 b, .int .i64 y, .int .i64 m] 60)).cell? ⟨cb, 1, none⟩ = some (.slice a x.due.length cap) := a1
    have ncb : cb ≠ w5.heap.size := Nat.ne_of_lt (cell_lt d1)
    go_region_law ((refine step_append_lies _ (by rfl) (.tmp 58) (.tmp 62) 56 (by rfl) 0 60 i0 _ 4 32 Tryd.underlying56 hi hz0 hz1 hz2 rfl (by decide) (.slice a x.due.length cap) x.due.length (crow x.due) (by rfl) r7 ⟨w5.heap.size, 0, none⟩ 1 1 [.int .i64 o, .int .i64 b, .int .i64 y, .int .i64 m] (by rfl) rfl N6 one (by decide) l63 l64 (Nat.zero_le _) (w5.heap.size + 1) (by simp) ?_; intro gN cap1 w7 hown hgrow hat hlt; have c7 : w7.cell? ⟨cb, 1, none⟩ = some (.slice a x.due.length cap) := (hgrow.cell_far ⟨cb, 1, none⟩ lc (fun e => tv e.symm)).trans a1; have f7 : w7.frozen? ⟨cb, 1, none⟩ = false := (hgrow.frozen_far ⟨cb, 1, none⟩ lc (fun e => tv e.symm)).trans af))
    all_goals
      go_wp2_with fail
      go_ret
      have h7 := acc_placed (o, b, y, m) hx a0 a1 af aO tv tm nq wfs he hown hgrow (hat.imp id fun e => by rw [e]; simp)
      refine ⟨_, fun k => k = cb ∨ k = q ∨ k = gN, rfl, .inl ⟨E.out, rfl⟩, ?_, ?_, fun k hk z => ?_⟩
      · rw [S1.out]
        exact PCt.more ⟨q, _, fun k => ⟨fun z => z.imp id fun z => z.imp id fun e => by rw [e]; rfl, fun z => z.imp id fun z => z.imp id fun e => by cases e; rfl⟩, h7⟩ (by omega)
      · have m2 : KeptP (fun i => (Value.slice a x.due.length cap).ownBlock = some i) _ w7 := ⟨hgrow.os, hgrow.tape, hgrow.output, hgrow.size, fun i hi z => hgrow.block i hi fun e => z e.symm⟩
        exact ((M5.trans K7 fun _ _ z => z.elim).trans m2 fun i _ z => (hF i).2 (.inr (.inr z))).setCell (p := ⟨cb, 1, none⟩) ((hF cb).2 (.inl rfl)) _
      · have := M5.size
        rcases z with e | e | e
        · exact (hF k).2 (.inl e)
        · exact (hF k).2 (.inr (.inl e))
        · rcases hat with z | z
          · exact (hF k).2 (.inr (.inr (e ▸ z)))
          · omega
theorem pc_acc (F : Nat → Prop) (cb : Nat) (x : Ct) (hx : x.Ok) (hl : x.L.length ≤ 900) (g : Nat) (hg : g ≤ 900000) (o b y m c : Int) (wb : (Lit.int .i64 b).wf = true) (wy : (Lit.int .i64 y).wf = true) (wm : (Lit.int .i64 m).wf = true) (_ : (Lit.int .i64 c).wf = true) (A : Nat → Addr) (w : World) (hL : CtLaid w A) (h : PCt F w cb x g) :
    Calls Tryd.prog 32 #[.pointer (some ⟨cb, 0, none⟩), .int .i64 o, .agg #[.int .i64 b, .int .i64 y, .int .i64 m], .int .i64 c] w fun e w' => ∃ ev F', e = .returned ev ∧ ErrIs A ev (x.accC o (b, y, m) c) ∧ PCt F' w' cb (x.acc o (b, y, m) c) (g + 4) ∧ Moved F F' w w' := by
  by_cases h1 : AccIn o (b, y, m) c
  · by_cases h2 : AccNow (b, y, m) c
    · cases h3 : x.seen (b, y, m) with
      | true => exact acc_seen F cb x g o b y m c h1 h2 ⟨wb, wy, wm⟩ h3 A w hL h
      | false => exact acc_new F cb x g o b y m c h1 h2 ⟨wb, wy, wm⟩ h3 hx hl hg A w hL h
    · exact acc_old F cb x g o b y m c h1 h2 A w hL h
  · exact acc_bound F cb x g o b y m c h1 A w hL h
end Go.Proofs.YtamjnkjgdaojiaaDoor
