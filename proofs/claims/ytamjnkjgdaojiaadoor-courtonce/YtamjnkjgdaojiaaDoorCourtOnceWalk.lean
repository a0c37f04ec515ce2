/-
  The law CourtOnce, walked: for every slice of evidence it returns true.
-/
import Derived.Test.YtamjnkjgdaojiaaDoorCourtRows
import Derived.Test.YtamjnkjgdaojiaaDoorIntsOwn
import Derived.Deep.RegionHeld3
namespace Go.Proofs.YtamjnkjgdaojiaaDoor
open Go.RowKit

theorem row_shape {w : World} {B size n : Nat} {e : TypeId} {v : Value} {xs : List Value} (h : w.ownsRow B e size v n xs) : ∃ a cap, v = .slice a n cap := by
  rcases h.2 with ⟨e, h0⟩ | ⟨g, cap, cur, e, _⟩
  · exact ⟨none, 0, by rw [e, h0]⟩
  · exact ⟨_, _, e⟩
theorem Rows2.takenAt {B : Nat} {w : World} {F : Nat → Prop} {a : Option Addr} {n cap : Nat} {vd : Value} {T : List Br} {D : List Cs} (h : Rows2 B w F (.slice a n cap) vd T D) {i : Nat} {t : Br} (ht : T[i]? = some t) : ∃ g, a = some ⟨g, 0, none⟩ ∧ w.cell? ⟨g, i * 6, none⟩ = some (.int .i64 t.o) ∧ w.cell? ⟨g, i * 6 + 1, none⟩ = some (.int .i64 t.b) ∧ w.cell? ⟨g, i * 6 + 2, none⟩ = some (.int .i64 t.y) ∧ w.cell? ⟨g, i * 6 + 3, none⟩ = some (.int .i64 t.m) := by
  have hi := (List.getElem?_eq_some_iff.1 ht).1
  rcases h.t.2 with ⟨e, h0⟩ | ⟨g, cap', cur, e, _⟩
  · omega
  · cases e
    obtain ⟨a, b, c, d⟩ := brow_at T i t ht
    exact ⟨g, rfl, (h.t.cellAt _ (by omega)).trans a, (h.t.cellAt _ (by omega)).trans b, (h.t.cellAt _ (by omega)).trans c, (h.t.cellAt _ (by omega)).trans d⟩
theorem Rows2.dueAt {B : Nat} {w : World} {F : Nat → Prop} {a : Option Addr} {n cap : Nat} {vt : Value} {T : List Br} {D : List Cs} (h : Rows2 B w F vt (.slice a n cap) T D) {i : Nat} {t : Cs} (ht : D[i]? = some t) : ∃ g, a = some ⟨g, 0, none⟩ ∧ w.cell? ⟨g, i * 4, none⟩ = some (.int .i64 t.1) ∧ w.cell? ⟨g, i * 4 + 1, none⟩ = some (.int .i64 t.2.1) ∧ w.cell? ⟨g, i * 4 + 2, none⟩ = some (.int .i64 t.2.2.1) ∧ w.cell? ⟨g, i * 4 + 3, none⟩ = some (.int .i64 t.2.2.2) := by
  have hi := (List.getElem?_eq_some_iff.1 ht).1
  rcases h.d.2 with ⟨e, h0⟩ | ⟨g, cap', cur, e, _⟩
  · omega
  · cases e
    obtain ⟨a, b, c, d⟩ := crow_at D i t ht
    exact ⟨g, rfl, (h.d.cellAt _ (by omega)).trans a, (h.d.cellAt _ (by omega)).trans b, (h.d.cellAt _ (by omega)).trans c, (h.d.cellAt _ (by omega)).trans d⟩
theorem Mine.grown {B : Nat} {w0 w w' : World} {F : Nat → Prop} {v : Value} (h : Mine B w0 w F) (hg : w.grownBy w' v.ownBlock) (hv : ∀ q, v.ownBlock = some q → B ≤ q) : Mine B w0 w' F :=
  ⟨h.f, h.below.trans ((grown_keptP hg).below h.size hv), Nat.le_trans h.size hg.size⟩
/-- the court, and the two rows -/
structure Once (B : Nat) (w0 w : World) (cb g k : Nat) (F : Nat → Prop) (x : Ct) (T : List Br) (vt vd : Value) : Prop where
  ok : x.Ok
  len : x.L.length ≤ k
  p : PCt F w cb x g
  m : Mine B w0 w F
  r : Rows2 B w F vt vd T (x.L.take x.done)
  t : T.map Br.cs = x.L
theorem Once.drewN {B g k cb : Nat} {w0 w : World} {F : Nat → Prop} {x : Ct} {T : List Br} {vt vd : Value} (h : Once B w0 w cb g k F x T vt vd) (n : Nat) : Once B w0 (w.drewN n) cb g k F x T vt vd := ⟨h.ok, h.len, h.p.drewN n, h.m.drewN n, h.r.drewN n, h.t⟩
theorem Once.lenT {B g k cb : Nat} {w0 w : World} {F : Nat → Prop} {x : Ct} {T : List Br} {vt vd : Value} (h : Once B w0 w cb g k F x T vt vd) : T.length = x.L.length := by rw [← h.t, List.length_map]
/-- all that is due is handed over -/
theorem Once.due {B g k cb : Nat} {w0 w w1 w2 : World} {F F1 : Nat → Prop} {x : Ct} {T : List Br} {vt vd vd' : Value} (h : Once B w0 w cb g k F x T vt vd) (hP : PCt F1 w1 cb x.asked g) (hM : Moved F F1 w w1) (hg : w1.grownBy w2 vd.ownBlock) (own : w2.ownsRow B 60 4 vd' (x.L.take x.done ++ x.due).length (crow (x.L.take x.done ++ x.due))) (ha : vd'.ownBlock = vd.ownBlock ∨ vd'.ownBlock = some w1.heap.size) : Once B w0 w2 cb g k F1 x.asked T vt vd' := by
  have r1 := h.r.moved hM
  have e : x.L.take x.done ++ x.due = x.asked.L.take x.asked.done := by rw [Ct.parts]; show x.L = x.L.take x.L.length; rw [List.take_length]
  refine ⟨h.ok.asked, h.len, hP.keptP (grown_keptP hg) (fun q e f => r1.dF q e f), (h.m.next hM).grown hg (fun q e => (r1.d.lt q e).1), ?_, h.t⟩
  rw [e] at own
  exact r1.addD hP.lt hg own ha
/-- evidence was refused -/
theorem Once.no {B g k cb : Nat} {w0 w w1 : World} {F F1 : Nat → Prop} {x : Ct} {T : List Br} {vt vd : Value} (h : Once B w0 w cb g k F x T vt vd) {o : Int} {e : Ev} {c : Int} (hc : x.accC o e c ≠ 0) (hP : PCt F1 w1 cb (x.acc o e c) (g + 4)) (hM : Moved F F1 w w1) : Once B w0 w1 cb (g + 4) (k + 1) F1 x T vt vd := by
  have e : x.acc o e c = x := if_neg hc
  rw [e] at hP
  exact ⟨h.ok, Nat.le_succ_of_le h.len, hP, h.m.next hM, h.r.moved hM, h.t⟩
/-- evidence was taken -/
theorem Once.yes {B g k cb : Nat} {w0 w w1 w2 w3 : World} {F F1 : Nat → Prop} {x : Ct} {T : List Br} {vt vd vt' : Value} (h : Once B w0 w cb g k F x T vt vd) (t : Br) {c : Int} (hc : x.accC t.o (t.b, t.y, t.m) c = 0) (hP : PCt F1 w1 cb (x.acc t.o (t.b, t.y, t.m) c) (g + 4)) (hM : Moved F F1 w w1) (hB : Below w1.heap.size w1 w2) (hg : w2.grownBy w3 vt.ownBlock) (own : w3.ownsRow B 55 6 vt' (T.length + 1) (brow T ++ [.int .i64 t.o, .int .i64 t.b, .int .i64 t.y, .int .i64 t.m, .int .i64 t.c, .bool t.d])) (ha : vt'.ownBlock = vt.ownBlock ∨ vt'.ownBlock = some w2.heap.size) : Once B w0 w3 cb (g + 4) (k + 1) F1 (x.acc t.o (t.b, t.y, t.m) c) (T ++ [t]) vt' vd := by
  have e : x.acc t.o (t.b, t.y, t.m) c = ⟨x.L ++ [t.cs], x.done⟩ := if_pos hc
  have hP2 := hP.nextB hB
  have r2 := (h.r.moved hM).nextB hB
  have ok := h.ok.acc t.o (t.b, t.y, t.m) c
  rw [e] at hP2 ok ⊢
  refine ⟨ok, by show (x.L ++ [t.cs]).length ≤ k + 1; have := h.len; simp; omega, hP2.keptP (grown_keptP hg) (fun q e f => r2.tF q e f), ((h.m.next hM).nextB hB).grown hg (fun q e => (r2.t.lt q e).1), ?_, by rw [List.map_append, h.t]; rfl⟩
  have e2 : (x.L ++ [t.cs]).take x.done = x.L.take x.done := List.take_append_of_le_length h.ok.le
  rw [← brow_append, show T.length + 1 = (T ++ [t]).length by simp] at own
  show Rows2 B w3 F1 vt' vd (T ++ [t]) ((x.L ++ [t.cs]).take x.done)
  rw [e2]
  exact r2.addT hP2.lt hg own ha

set_option maxRecDepth 100000 in
set_option maxHeartbeats 8000000 in
theorem courtOnce_walk (b off len cap : Nat) (A : Nat → Addr) (w : World) (hL : Laid w A) (a0 : Option Addr) (hb : len ≠ 0 → a0 = some ⟨b, off, none⟩ ∧ b < w.heap.size) (h100 : len ≤ 100) (hA : Broughts w b off len) :
    Calls Tryd.prog 6 #[.slice a0 len cap] w fun e w' => e = .returned (.bool true) ∧ Below w.heap.size w w' := by
  go_enter Tryd.func6, Tryd.ntmps6
  go_wp2_with fail
  refine (judged_of A w hL).mono ?_
  rintro e w1 ⟨rfl, hB1⟩
  go_wp2_with fail
  refine (pc_new _).mono ?_
  rintro e w2 ⟨cb, F2, rfl, hP2, hf2, hB2⟩
  have M2 : Mine w.heap.size w w2 F2 := ⟨fun k hk => Nat.le_trans hB1.size (hf2 k hk), hB1.trans (hB2.mono hB1.size), Nat.le_trans hB1.size hB2.size⟩
  clear hB1 hB2 hf2
  go_wp2_with fail
  go_loopw [5, 6, 7] (fun vt vd i w' => ∃ (k : Nat) (F : Nat → Prop) (x : Ct) (T : List Br), k ≤ len ∧ i = .int .i64 k ∧ Once w.heap.size w w' cb (4 * k) k F x T vt vd) (fun _ _ i _ => len - (intOf i).toNat)
  case atStart => exact ⟨0, F2, _, [], Nat.zero_le _, rfl, ct0_ok, Nat.le_refl _, hP2, M2, ⟨World.ownsRow_nil _ _ _ _, World.ownsRow_nil _ _ _ _, fun q e => (by cases e), fun q e => (by cases e), fun q e => (by cases e)⟩, rfl⟩
  case round =>
    obtain ⟨k, F, x, T, hk, rfl, hO⟩ := hrel
    clear hP2 M2
    by_cases hlt : k < len
    · obtain ⟨t0, hT0, _⟩ := hA.below hO.m.below (hb (by omega)).2 k hlt
      have cd := hT0.c5
      obtain ⟨ea, zb⟩ := hb (by omega)
      subst ea
      clear hT0 hb
      by_cases hd : t0.d = true
      · rw [hd] at cd
        clear hd
        go_wp2_with fail
        refine (pc_due F cb x hO.ok (by have := hO.len; omega) _ _ hO.p).mono ?_
        rintro e w4 ⟨d, q, F4, rfl, hC4, _, hP4, hM4⟩
        obtain ⟨vd', w5, hr5, ho5, hg5, ha5⟩ := cases_append 56 w4 (hO.r.moved hM4).d hC4 (by have := hO.len; have := hO.ok.le; unfold Ct.due; simp; omega) (hO.m.next hM4).size
        have hO5 := hO.due hP4 hM4 hg5 ho5 ha5
        clear hO hC4 hP4 hM4 ho5 hg5 ha5
        have hTL := hO5.lenT
        obtain ⟨aT, cT, rfl⟩ := row_shape hO5.r.t
        have e5 : x.asked.L.take x.asked.done = x.L := List.take_length
        have R5 := hO5.r
        rw [e5] at R5
        obtain ⟨aD, cD, rfl⟩ := row_shape R5.d
        have hTL' : T.length = x.L.length := hTL
        have b1 : x.L.length ≤ 100 := by have : x.L.length ≤ k := hO5.len; omega
        have b2 : T.length ≤ 100 := by omega
        skip
        have HT := hide hTL'
        clear hTL e5 hTL'
        go_wp2_with (at_builtin; refine wpList_append_by _ rfl (.tmp 33) (.tmp 35) 56 rfl _ _ rfl rfl _ _ hr5 ?_)
        clear hr5
        clear cd R5
        obtain ⟨t, hT, hwf⟩ := hA.below hO5.m.below zb k hlt
        have c0 := hT.c0
        have c1 := hT.c1
        have c2 := hT.c2
        have c3 := hT.c3
        have c4 := hT.c4
        have c5 := hT.c5
        have wb := hwf.b
        have wy := hwf.y
        have wm := hwf.m
        have wc := hwf.c
        have zF : ¬ F4 b := fun g => by have := hO5.m.f b g; omega
        have L6 := hL.below hO5.m.below
        clear hT hwf
        by_cases hc : x.asked.accC t.o (t.b, t.y, t.m) t.c = 0
        · have hne := (Ct.accC_zero hc).2.2
          have hcH := hide hc
          clear hc
          go_wp2_with fail
          go_region_held3 (fun w' => w'.cell? ⟨b, off + k * 6, none⟩ = some (.int .i64 t.o) ∧ w'.cell? ⟨b, off + k * 6 + 1, none⟩ = some (.int .i64 t.b) ∧ w'.cell? ⟨b, off + k * 6 + 2, none⟩ = some (.int .i64 t.y) ∧ w'.cell? ⟨b, off + k * 6 + 3, none⟩ = some (.int .i64 t.m) ∧ w'.cell? ⟨b, off + k * 6 + 4, none⟩ = some (.int .i64 t.c)) (exact ⟨by assumption, by assumption, by assumption, by assumption, by assumption⟩)
            (first | (go_at_call 32; refine (pc_acc F4 cb x.asked hO5.ok (by have := hO5.len; omega) (4 * k) (by omega) t.o t.b t.y t.m t.c wb wy wm wc A _ (by first | exact L6.ct | exact (L6.drewN _).ct) (by first | exact hO5.p | exact hO5.p.drewN _)).mono ?_; rintro e w7 ⟨ev, F7, rfl, hE7, hP7, hM7⟩; obtain rfl := hE7.nil hcH.out; have d0 := hM7.cell (p := ⟨b, off + k * 6, none⟩) c0 zF; have d1 := hM7.cell (p := ⟨b, off + k * 6 + 1, none⟩) c1 zF; have d2 := hM7.cell (p := ⟨b, off + k * 6 + 2, none⟩) c2 zF; have d3 := hM7.cell (p := ⟨b, off + k * 6 + 3, none⟩) c3 zF; have d4 := hM7.cell (p := ⟨b, off + k * 6 + 4, none⟩) c4 zF; obtain ⟨WQ, OQ, hMQ⟩ := (by first | exact ⟨_, hO5, hM7⟩ | exact ⟨_, hO5.drewN _, hM7⟩ : ∃ wq, Once w.heap.size w wq cb (4 * k) k F4 x.asked T (.slice aT T.length cT) (.slice aD x.L.length cD) ∧ Moved F4 F7 wq w7); have B7 : Below w.heap.size w w7 := (OQ.m.next hMQ).below; have d5 : w7.cell? ⟨b, off + k * 6 + 5, none⟩ = some (.bool t.d) := hM7.cell (p := ⟨b, off + k * 6 + 5, none⟩) c5 zF))
          have hTl : T.length ≤ 100 := by have := OQ.lenT; have := OQ.len; omega
          clear c0 c1 c2 c3 c4 c5 hO5 L6 hM7 zF hE7
          go_wp2_with fail
          go_loopw [8] (fun j wz => ∃ i n : Nat, i ≤ T.length ∧ j = .int .i64 i ∧ wz = w7.drewN n) (fun j _ => T.length - (intOf j).toNat)
          case atStart => exact ⟨0, 0, Nat.zero_le _, rfl, rfl⟩
          case round =>
            obtain ⟨i, nd, hi, rfl, hw⟩ := hrel
            by_cases hlt2 : i < T.length
            · obtain ⟨t2, ht2⟩ : ∃ t2, T[i]? = some t2 := ⟨T[i], List.getElem?_eq_getElem hlt2⟩
              obtain ⟨gT, rfl, u0, u1, u2, u3⟩ := (OQ.r.moved hMQ).takenAt ht2
              rw [← drew_cell w7 nd, ← hw] at u0 u1 u2 u3 d0 d1 d2 d3 d4 d5
              have HW := hide hw
              have E1 := ev_guard
              have E2 := fun w => ev_eql t2.b t2.y t2.m t.b t.y t.m w
              have hq : (t2.b, t2.y, t2.m) ≠ (t.b, t.y, t.m) := fun e => by
                have hm : (t.b, t.y, t.m) ∈ x.asked.L.map (·.2) := by
                  rw [← OQ.t, List.map_map]
                  exact List.mem_map.2 ⟨t2, List.mem_of_getElem? ht2, e⟩
                rw [(Ct.seen_iff x.asked _).2 hm] at hne
                cases hne
              rw [decide_eq_false hq] at E2
              clear hw hq ht2 hP7 OQ hMQ B7
              go_wp2_with fail
              go_quiet (fail)
              go_wp2_with fail
              go_roundw
              case rel => exact ⟨i + 1, _, by omega, by go_num, by rw [HW.out, drewN_twice]⟩
              case measure => simp [intOf]; omega
            · obtain rfl : i = T.length := by omega
              have HW := hide hw
              rw [← drew_cell w7 nd, ← hw] at d0 d1 d2 d3 d4 d5
              have N6 : ∀ j u, [Value.int .i64 t.o, .int .i64 t.b, .int .i64 t.y, .int .i64 t.m, .int .i64 t.c, .bool t.d][j]? = some u → (wr.alloc (.cells #[.int .i64 t.o, .int .i64 t.b, .int .i64 t.y, .int .i64 t.m, .int .i64 t.c, .bool t.d] 55)).cell? ((⟨wr.heap.size, 0, none⟩ : Addr).add j) = some u := World.news_of_block (heap_alloc_new wr _)
              have hB8 : Below w7.heap.size w7 (wr.alloc (.cells #[.int .i64 t.o, .int .i64 t.b, .int .i64 t.y, .int .i64 t.m, .int .i64 t.c, .bool t.d] 55)) := by rw [hw]; exact (below_drewN (Below.refl _ _) nd).alloc (Nat.le_refl _) _
              have ow := (((OQ.r.moved hMQ).nextB hB8)).t
              obtain ⟨i0, hi0, hz0, hz1, hz2⟩ := info_parts Tryd.infoBrought
              have one : ∀ u ∈ [Value.int .i64 t.o, .int .i64 t.b, .int .i64 t.y, .int .i64 t.m, .int .i64 t.c, .bool t.d], u.oneCell' = true := by simp [Value.oneCell']
              have l63 : T.length + 1 ≤ maxLen := by simp only [maxLen]; omega
              have l64 : (T.length + 1) * 48 ≤ 140737488355328 := by omega
              have lB : w.heap.size ≤ (wr.alloc (.cells #[.int .i64 t.o, .int .i64 t.b, .int .i64 t.y, .int .i64 t.m, .int .i64 t.c, .bool t.d] 55)).heap.size := Nat.le_trans (OQ.m.next hMQ).size hB8.size
              clear hw hlt2 hne
              go_wp2_with (at_builtin; refine wpList_append_lies _ rfl (.tmp 72) (.tmp 77) 45 rfl w.heap.size 55 i0 _ 6 48 Tryd.underlying45 hi0 hz0 hz1 hz2 rfl (by decide) _ T.length (brow T) rfl ow ⟨wr.heap.size, 0, none⟩ 1 1 [.int .i64 t.o, .int .i64 t.b, .int .i64 t.y, .int .i64 t.m, .int .i64 t.c, .bool t.d] rfl rfl N6 one (by decide) l63 l64 lB _ rfl ?_; intro gN capN w9 hown hgrow hat hltN)
              have hO9 := OQ.yes t hcH.out hP7 hMQ hB8 hgrow hown (hat.imp (fun e => e.symm) (fun e => by rw [e]; rfl))
              clear OQ hMQ hB8 ow hown hgrow hat N6 d0 d1 d2 d3 d4 d5 hP7 B7
              go_roundw
              case rel => exact ⟨k + 1, F7, _, _, by omega, by go_num, by rw [Nat.mul_add]; exact hO9⟩
              case measure => simp [intOf]; omega
        · have hcH := hide hc
          clear hc
          go_wp2_with fail
          go_region_held3 (fun w' => w'.cell? ⟨b, off + k * 6, none⟩ = some (.int .i64 t.o) ∧ w'.cell? ⟨b, off + k * 6 + 1, none⟩ = some (.int .i64 t.b) ∧ w'.cell? ⟨b, off + k * 6 + 2, none⟩ = some (.int .i64 t.y) ∧ w'.cell? ⟨b, off + k * 6 + 3, none⟩ = some (.int .i64 t.m) ∧ w'.cell? ⟨b, off + k * 6 + 4, none⟩ = some (.int .i64 t.c)) (exact ⟨by assumption, by assumption, by assumption, by assumption, by assumption⟩)
            (first | (go_at_call 32; refine (pc_acc F4 cb x.asked hO5.ok (by have := hO5.len; omega) (4 * k) (by omega) t.o t.b t.y t.m t.c wb wy wm wc A _ (by first | exact L6.ct | exact (L6.drewN _).ct) (by first | exact hO5.p | exact hO5.p.drewN _)).mono ?_; rintro e w7 ⟨ev, F7, rfl, hE7, hP7, hM7⟩; obtain ⟨iE, rfl⟩ := hE7.err hcH.out; have d0 := hM7.cell (p := ⟨b, off + k * 6, none⟩) c0 zF; have d1 := hM7.cell (p := ⟨b, off + k * 6 + 1, none⟩) c1 zF; have d2 := hM7.cell (p := ⟨b, off + k * 6 + 2, none⟩) c2 zF; have d3 := hM7.cell (p := ⟨b, off + k * 6 + 3, none⟩) c3 zF; have d4 := hM7.cell (p := ⟨b, off + k * 6 + 4, none⟩) c4 zF; obtain ⟨WQ, OQ, hMQ⟩ := (by first | exact ⟨_, hO5, hM7⟩ | exact ⟨_, hO5.drewN _, hM7⟩ : ∃ wq, Once w.heap.size w wq cb (4 * k) k F4 x.asked T (.slice aT T.length cT) (.slice aD x.L.length cD) ∧ Moved F4 F7 wq w7); have B7 : Below w.heap.size w w7 := (OQ.m.next hMQ).below; have d5 : w7.cell? ⟨b, off + k * 6 + 5, none⟩ = some (.bool t.d) := hM7.cell (p := ⟨b, off + k * 6 + 5, none⟩) c5 zF))
          have hO9 := OQ.no hcH.out hP7 hMQ
          clear c0 c1 c2 c3 c4 c5 hO5 L6 hM7 zF hE7 d0 d1 d2 d3 d4 d5 OQ hMQ hP7 B7
          go_wp2_with fail
          go_roundw
          case rel => exact ⟨k + 1, F7, _, _, by omega, by go_num, by rw [Nat.mul_add]; exact hO9⟩
          case measure => simp [intOf]; omega
      · have hd : t0.d = false := by simpa using hd
        rw [hd] at cd
        clear hd
        have hO5 := hO
        clear hO
        obtain ⟨aT, cT, rfl⟩ := row_shape hO5.r.t
        obtain ⟨t, hT, hwf⟩ := hA.below hO5.m.below zb k hlt
        have c0 := hT.c0
        have c1 := hT.c1
        have c2 := hT.c2
        have c3 := hT.c3
        have c4 := hT.c4
        have c5 := hT.c5
        have wb := hwf.b
        have wy := hwf.y
        have wm := hwf.m
        have wc := hwf.c
        have zF : ¬ F b := fun g => by have := hO5.m.f b g; omega
        have L6 := hL.below hO5.m.below
        clear hT hwf
        by_cases hc : x.accC t.o (t.b, t.y, t.m) t.c = 0
        · have hne := (Ct.accC_zero hc).2.2
          have hcH := hide hc
          clear hc
          go_wp2_with fail
          go_region_held3 (fun w' => w'.cell? ⟨b, off + k * 6, none⟩ = some (.int .i64 t.o) ∧ w'.cell? ⟨b, off + k * 6 + 1, none⟩ = some (.int .i64 t.b) ∧ w'.cell? ⟨b, off + k * 6 + 2, none⟩ = some (.int .i64 t.y) ∧ w'.cell? ⟨b, off + k * 6 + 3, none⟩ = some (.int .i64 t.m) ∧ w'.cell? ⟨b, off + k * 6 + 4, none⟩ = some (.int .i64 t.c)) (exact ⟨by assumption, by assumption, by assumption, by assumption, by assumption⟩)
            (first | (go_at_call 32; refine (pc_acc F cb x hO5.ok (by have := hO5.len; omega) (4 * k) (by omega) t.o t.b t.y t.m t.c wb wy wm wc A _ (by first | exact L6.ct | exact (L6.drewN _).ct) (by first | exact hO5.p | exact hO5.p.drewN _)).mono ?_; rintro e w7 ⟨ev, F7, rfl, hE7, hP7, hM7⟩; obtain rfl := hE7.nil hcH.out; have d0 := hM7.cell (p := ⟨b, off + k * 6, none⟩) c0 zF; have d1 := hM7.cell (p := ⟨b, off + k * 6 + 1, none⟩) c1 zF; have d2 := hM7.cell (p := ⟨b, off + k * 6 + 2, none⟩) c2 zF; have d3 := hM7.cell (p := ⟨b, off + k * 6 + 3, none⟩) c3 zF; have d4 := hM7.cell (p := ⟨b, off + k * 6 + 4, none⟩) c4 zF; obtain ⟨WQ, OQ, hMQ⟩ := (by first | exact ⟨_, hO5, hM7⟩ | exact ⟨_, hO5.drewN _, hM7⟩ : ∃ wq, Once w.heap.size w wq cb (4 * k) k F x T (.slice aT T.length cT) u6 ∧ Moved F F7 wq w7); have B7 : Below w.heap.size w w7 := (OQ.m.next hMQ).below; have d5 : w7.cell? ⟨b, off + k * 6 + 5, none⟩ = some (.bool t.d) := hM7.cell (p := ⟨b, off + k * 6 + 5, none⟩) c5 zF))
          have hTl : T.length ≤ 100 := by have := OQ.lenT; have := OQ.len; omega
          clear c0 c1 c2 c3 c4 c5 hO5 L6 hM7 zF hE7
          go_wp2_with fail
          go_loopw [8] (fun j wz => ∃ i n : Nat, i ≤ T.length ∧ j = .int .i64 i ∧ wz = w7.drewN n) (fun j _ => T.length - (intOf j).toNat)
          case atStart => exact ⟨0, 0, Nat.zero_le _, rfl, rfl⟩
          case round =>
            obtain ⟨i, nd, hi, rfl, hw⟩ := hrel
            by_cases hlt2 : i < T.length
            · obtain ⟨t2, ht2⟩ : ∃ t2, T[i]? = some t2 := ⟨T[i], List.getElem?_eq_getElem hlt2⟩
              obtain ⟨gT, rfl, u0, u1, u2, u3⟩ := (OQ.r.moved hMQ).takenAt ht2
              rw [← drew_cell w7 nd, ← hw] at u0 u1 u2 u3 d0 d1 d2 d3 d4 d5
              have HW := hide hw
              have E1 := ev_guard
              have E2 := fun w => ev_eql t2.b t2.y t2.m t.b t.y t.m w
              have hq : (t2.b, t2.y, t2.m) ≠ (t.b, t.y, t.m) := fun e => by
                have hm : (t.b, t.y, t.m) ∈ x.L.map (·.2) := by
                  rw [← OQ.t, List.map_map]
                  exact List.mem_map.2 ⟨t2, List.mem_of_getElem? ht2, e⟩
                rw [(Ct.seen_iff x _).2 hm] at hne
                cases hne
              rw [decide_eq_false hq] at E2
              clear hw hq ht2 hP7 OQ hMQ B7
              go_wp2_with fail
              go_quiet (fail)
              go_wp2_with fail
              go_roundw
              case rel => exact ⟨i + 1, _, by omega, by go_num, by rw [HW.out, drewN_twice]⟩
              case measure => simp [intOf]; omega
            · obtain rfl : i = T.length := by omega
              have HW := hide hw
              rw [← drew_cell w7 nd, ← hw] at d0 d1 d2 d3 d4 d5
              have N6 : ∀ j u, [Value.int .i64 t.o, .int .i64 t.b, .int .i64 t.y, .int .i64 t.m, .int .i64 t.c, .bool t.d][j]? = some u → (wr.alloc (.cells #[.int .i64 t.o, .int .i64 t.b, .int .i64 t.y, .int .i64 t.m, .int .i64 t.c, .bool t.d] 55)).cell? ((⟨wr.heap.size, 0, none⟩ : Addr).add j) = some u := World.news_of_block (heap_alloc_new wr _)
              have hB8 : Below w7.heap.size w7 (wr.alloc (.cells #[.int .i64 t.o, .int .i64 t.b, .int .i64 t.y, .int .i64 t.m, .int .i64 t.c, .bool t.d] 55)) := by rw [hw]; exact (below_drewN (Below.refl _ _) nd).alloc (Nat.le_refl _) _
              have ow := (((OQ.r.moved hMQ).nextB hB8)).t
              obtain ⟨i0, hi0, hz0, hz1, hz2⟩ := info_parts Tryd.infoBrought
              have one : ∀ u ∈ [Value.int .i64 t.o, .int .i64 t.b, .int .i64 t.y, .int .i64 t.m, .int .i64 t.c, .bool t.d], u.oneCell' = true := by simp [Value.oneCell']
              have l63 : T.length + 1 ≤ maxLen := by simp only [maxLen]; omega
              have l64 : (T.length + 1) * 48 ≤ 140737488355328 := by omega
              have lB : w.heap.size ≤ (wr.alloc (.cells #[.int .i64 t.o, .int .i64 t.b, .int .i64 t.y, .int .i64 t.m, .int .i64 t.c, .bool t.d] 55)).heap.size := Nat.le_trans (OQ.m.next hMQ).size hB8.size
              clear hw hlt2 hne
              go_wp2_with (at_builtin; refine wpList_append_lies _ rfl (.tmp 72) (.tmp 77) 45 rfl w.heap.size 55 i0 _ 6 48 Tryd.underlying45 hi0 hz0 hz1 hz2 rfl (by decide) _ T.length (brow T) rfl ow ⟨wr.heap.size, 0, none⟩ 1 1 [.int .i64 t.o, .int .i64 t.b, .int .i64 t.y, .int .i64 t.m, .int .i64 t.c, .bool t.d] rfl rfl N6 one (by decide) l63 l64 lB _ rfl ?_; intro gN capN w9 hown hgrow hat hltN)
              have hO9 := OQ.yes t hcH.out hP7 hMQ hB8 hgrow hown (hat.imp (fun e => e.symm) (fun e => by rw [e]; rfl))
              clear OQ hMQ hB8 ow hown hgrow hat N6 d0 d1 d2 d3 d4 d5 hP7 B7
              go_roundw
              case rel => exact ⟨k + 1, F7, _, _, by omega, by go_num, by rw [Nat.mul_add]; exact hO9⟩
              case measure => simp [intOf]; omega
        · have hcH := hide hc
          clear hc
          go_wp2_with fail
          go_region_held3 (fun w' => w'.cell? ⟨b, off + k * 6, none⟩ = some (.int .i64 t.o) ∧ w'.cell? ⟨b, off + k * 6 + 1, none⟩ = some (.int .i64 t.b) ∧ w'.cell? ⟨b, off + k * 6 + 2, none⟩ = some (.int .i64 t.y) ∧ w'.cell? ⟨b, off + k * 6 + 3, none⟩ = some (.int .i64 t.m) ∧ w'.cell? ⟨b, off + k * 6 + 4, none⟩ = some (.int .i64 t.c)) (exact ⟨by assumption, by assumption, by assumption, by assumption, by assumption⟩)
            (first | (go_at_call 32; refine (pc_acc F cb x hO5.ok (by have := hO5.len; omega) (4 * k) (by omega) t.o t.b t.y t.m t.c wb wy wm wc A _ (by first | exact L6.ct | exact (L6.drewN _).ct) (by first | exact hO5.p | exact hO5.p.drewN _)).mono ?_; rintro e w7 ⟨ev, F7, rfl, hE7, hP7, hM7⟩; obtain ⟨iE, rfl⟩ := hE7.err hcH.out; have d0 := hM7.cell (p := ⟨b, off + k * 6, none⟩) c0 zF; have d1 := hM7.cell (p := ⟨b, off + k * 6 + 1, none⟩) c1 zF; have d2 := hM7.cell (p := ⟨b, off + k * 6 + 2, none⟩) c2 zF; have d3 := hM7.cell (p := ⟨b, off + k * 6 + 3, none⟩) c3 zF; have d4 := hM7.cell (p := ⟨b, off + k * 6 + 4, none⟩) c4 zF; obtain ⟨WQ, OQ, hMQ⟩ := (by first | exact ⟨_, hO5, hM7⟩ | exact ⟨_, hO5.drewN _, hM7⟩ : ∃ wq, Once w.heap.size w wq cb (4 * k) k F x T (.slice aT T.length cT) u6 ∧ Moved F F7 wq w7); have B7 : Below w.heap.size w w7 := (OQ.m.next hMQ).below; have d5 : w7.cell? ⟨b, off + k * 6 + 5, none⟩ = some (.bool t.d) := hM7.cell (p := ⟨b, off + k * 6 + 5, none⟩) c5 zF))
          have hO9 := OQ.no hcH.out hP7 hMQ
          clear c0 c1 c2 c3 c4 c5 hO5 L6 hM7 zF hE7 d0 d1 d2 d3 d4 d5 OQ hMQ hP7 B7
          go_wp2_with fail
          go_roundw
          case rel => exact ⟨k + 1, F7, _, _, by omega, by go_num, by rw [Nat.mul_add]; exact hO9⟩
          case measure => simp [intOf]; omega
    · obtain rfl : k = len := by omega
      go_wp2_with fail
      refine (pc_due F cb x hO.ok (by have := hO.len; omega) _ _ hO.p).mono ?_
      rintro e w4 ⟨d, q, F4, rfl, hC4, _, hP4, hM4⟩
      obtain ⟨vd', w5, hr5, ho5, hg5, ha5⟩ := cases_append 56 w4 (hO.r.moved hM4).d hC4 (by have := hO.len; have := hO.ok.le; unfold Ct.due; simp; omega) (hO.m.next hM4).size
      have hO5 := hO.due hP4 hM4 hg5 ho5 ha5
      clear hO hC4 hP4 hM4 ho5 hg5 ha5
      have hTL := hO5.lenT
      obtain ⟨aT, cT, rfl⟩ := row_shape hO5.r.t
      have e5 : x.asked.L.take x.asked.done = x.L := List.take_length
      have R5 := hO5.r
      rw [e5] at R5
      obtain ⟨aD, cD, rfl⟩ := row_shape R5.d
      have hTL' : T.length = x.L.length := hTL
      have b1 : x.L.length ≤ 100 := by have : x.L.length ≤ k := hO5.len; omega
      have b2 : T.length ≤ 100 := by omega
      have q1 : ((x.L.length : Int) != (T.length : Int)) = false := by rw [hTL']; simp
      have HT := hide hTL'
      clear hTL e5 hTL'
      go_wp2_with (at_builtin; refine wpList_append_by _ rfl (.tmp 79) (.tmp 81) 56 rfl _ _ rfl rfl _ _ hr5 ?_)
      clear hr5
      have z1 : x.asked.due.length = 0 := by unfold Ct.due Ct.asked; simp
      have ET := hide hO5.t
      refine (pc_due F4 cb x.asked hO5.ok (by have := hO5.len; show x.L.length ≤ 900; have : x.L.length ≤ k := this; omega) _ _ hO5.p).mono ?_
      rintro e w6 ⟨d, q, F6, rfl, hC6, _, hP6, hM6⟩
      have R6 := R5.moved hM6
      have B6 := (hO5.m.next hM6).below
      obtain ⟨aE, oE, cE, rfl, _⟩ := hC6
      rw [z1]
      clear hO5 R5 hP6 hM6 z1
      go_wp2_with fail
      go_loopw [9] (fun j wz => ∃ i n : Nat, i ≤ x.L.length ∧ j = .int .i64 i ∧ wz = w6.drewN n) (fun j _ => x.L.length - (intOf j).toNat)
      case atStart => exact ⟨0, 0, Nat.zero_le _, rfl, rfl⟩
      case round =>
        obtain ⟨i, nd, hi, rfl, hw⟩ := hrel
        by_cases hlt2 : i < x.L.length
        · obtain ⟨t2, ht2⟩ : ∃ t2, T[i]? = some t2 := ⟨T[i]'(by have := HT.out; omega), List.getElem?_eq_getElem _⟩
          have ht3 : x.L[i]? = some t2.cs := by
            have e : T.map Br.cs = x.L := ET.out
            rw [← e, List.getElem?_map, ht2]; rfl
          obtain ⟨gT, rfl, u0, u1, u2, u3⟩ := R6.takenAt ht2
          obtain ⟨gD, rfl, v0, v1, v2, v3⟩ := R6.dueAt ht3
          have i6 : i < T.length := by have := HT.out; omega
          rw [← drew_cell w6 nd, ← hw] at u0 u1 u2 u3 v0 v1 v2 v3
          replace v0 : wr.cell? ⟨gD, i * 4, none⟩ = some (.int .i64 t2.o) := v0
          replace v1 : wr.cell? ⟨gD, i * 4 + 1, none⟩ = some (.int .i64 t2.b) := v1
          replace v2 : wr.cell? ⟨gD, i * 4 + 2, none⟩ = some (.int .i64 t2.y) := v2
          replace v3 : wr.cell? ⟨gD, i * 4 + 3, none⟩ = some (.int .i64 t2.m) := v3
          have HW := hide hw
          have E1 := ev_guard
          have E2 := fun w => ev_neq t2.b t2.y t2.m w
          have q2 : (t2.o != t2.o) = false := by simp
          clear hw ht2 ht3 R6 B6 q1 ET
          go_wp2_with fail
          go_quiet (fail)
          go_wp2_with fail
          go_roundw
          case rel => exact ⟨i + 1, _, by omega, by go_num, by rw [HW.out, drewN_twice]⟩
          case measure => simp [intOf]; omega
        · obtain rfl : i = x.L.length := by omega
          have B7 : Below w.heap.size w wr := by rw [hw]; exact below_drewN B6 nd
          clear hw R6 B6 q1 ET
          go_wp2_with fail
          go_ret
          exact ⟨rfl, B7⟩
end Go.Proofs.YtamjnkjgdaojiaaDoor
