/-
  A level's answer in company.
  What one has made is read with the rest; side.allBakers in company.
  side.Rights, up to the call of ofAll.
-/
import Derived.Test.YtmbfdhekplnoaaaDoorSideHouseX
namespace Go.Proofs.YtmbfdhekplnoaaaDoor
open Go Go.Conc

theorem AR.same {a b : Addr} (h1 : b.block = a.block) (h2 : b.off = a.off ∧ b.spot = a.spot) : b = a := by
  cases a
  cases b
  simp_all
def LvMade (A : Nat → Addr) (n : Nat) (Wt : Nat → Int) (seed : Nat) (c l : Int) (s e : Value) (Z : Nat → Prop) (W : World) : Prop :=
  LvEnd 0 W A n Wt seed c l s e ∧ (∀ x k q, s = .slice (some x) k q → Z x.block ∧ Bare W x) ∧ ∀ m, e = fault m → Z m ∧ Bare W ⟨m, 0, none⟩
theorem bare_keep {W W1 : World} {x : Addr} (h : Bare W x) (k : W1.heap[x.block]? = W.heap[x.block]?) : Bare W1 x := by
  obtain ⟨c, t, h⟩ := h
  exact ⟨c, t, k.trans h⟩
section made
variable {A : Nat → Addr} {n seed : Nat} {Wt : Nat → Int} {c l : Int} {s e : Value} {Z Sh : Nat → Prop} {W W1 : World}
theorem LvMade.steady (h : LvMade A n Wt seed c l s e Z W) (r : Rely Z Sh W W1) : LvMade A n Wt seed c l s e Z W1 := by
  obtain ⟨hE, h1, h2⟩ := h
  have kp : ∀ x, Z x → x < W.heap.size → W1.heap[x]? = W.heap[x]? := fun x hz hl => r.keep x hl (.inl hz)
  have bl : ∀ {x : Addr}, Bare W x → x.block < W.heap.size := fun h => h.plain.lt
  refine ⟨?_, fun x k q e => ⟨(h1 x k q e).1, bare_keep (h1 x k q e).2 (kp _ (h1 x k q e).1 (bl (h1 x k q e).2))⟩, fun m e => ⟨(h2 m e).1, bare_keep (h2 m e).2 (kp m (h2 m e).1 (bl (h2 m e).2))⟩⟩
  rcases hE with ⟨z, p, g1, g2, g3, g4⟩ | ⟨m, cap, K, g1, g2, g3, g4, g5, g6⟩
  · refine .inl ⟨z, p, g1, g2, g3, ?_⟩
    rcases g4 with q | ⟨m, i, q1, q2, q3, q4, q5, q6⟩
    · exact .inl q
    · have k := kp m (h2 m q4).1 (bl (h2 m q4).2)
      exact .inr ⟨m, i, q1, q2, q3, q4, cell_keep (a := ⟨m, 0, none⟩) k q5, cell_keep (a := ⟨m, 1, none⟩) k q6⟩
  · have k := kp m (h1 _ _ _ g2).1 (bl (h1 _ _ _ g2).2)
    exact .inr ⟨m, cap, K, g1, g2, g3, ⟨g4.1, Nat.lt_of_lt_of_le g4.2 r.size⟩, fun i hi => cell_keep (a := ⟨m, 0 + i, none⟩) k (g5 i hi), g6⟩
theorem LvMade.one (h : LvMade A n Wt seed c l s e Z W) : s.oneCell' = true ∧ e.oneCell' = true := by
  obtain ⟨⟨a, k, c, rfl⟩, rfl | ⟨u, y, rfl⟩⟩ := h.1.cells <;> exact ⟨rfl, rfl⟩
end made
section came
variable {S R : List Nat} {A : Nat → Addr} {Q : Ending → World → Prop} {N : Nat → Prop} {v' u : Value} {W0 W w : World} {ρ : Brel}
theorem Came.same (h : Came kin S R Q N v' W u w ρ) {a b : Nat} (hs : S.elem a = true) (r : ρ a b) : b = a := h.one.fn r (h.sh a hs)
theorem Came.sent (h : Came kin S R Q N v' W u w ρ) (H : House W0 S R A) {i : Nat} (hi : i < 10) {x : Value} (hx : VR (kin.Fn R) ρ (sent (A i)) x) : x = sent (A i) := by
  cases hx with
  | iface t hy => cases hy with
    | ptr hr hn => rw [AR.same (h.same (H.err i hi).1 hr.1) hr.2]
theorem Came.new (h : Came kin S R Q N v' W u w ρ) (H : House W0 S R A) {a b : Nat} (ha : W0.heap.size ≤ a) (r : ρ a b) : N b := by
  rcases h.img a b r with z | ⟨rfl, z⟩
  · exact z
  · have := H.lt z; omega
theorem Came.lone (h : Came kin S R Q N v' W u w ρ) (H : House W0 S R A) (hN : ∀ b, N b → W0.heap.size ≤ b) {a b : Nat} (ha : W0.heap.size ≤ a) (r : ρ a b) {off : Nat} {v : Value} (hc : W.cell? ⟨b, off, none⟩ = some v) : Bare W ⟨b, 0, none⟩ := by
  have hs : S.elem b = false := by
    cases q : S.elem b with
    | false => rfl
    | true => have := H.lt q; have := hN b (h.new H ha r); omega
  unfold World.cell? at hc
  cases hb : W.heap[b]? with
  | none => simp [hb] at hc
  | some o =>
    cases o with
    | cells d t g =>
      have := h.bare a b r hs d t g hb
      subst this
      exact ⟨d, t, hb⟩
    | _ => simp [hb] at hc
theorem LvEnd.came (h : Came kin S R Q N v' W u w ρ) (H : House W0 S R A) (hN : ∀ b, N b → W0.heap.size ≤ b) {n seed : Nat} {Wt : Nat → Int} {c l : Int} {s s' e e' : Value} {T : Nat → Question → Nat} {D : Nat}
    (hE : LvEnd W0.heap.size (World.tp w T D) A n Wt seed c l s e) (hs : VR (kin.Fn R) ρ s s') (he : VR (kin.Fn R) ρ e e') : LvMade A n Wt seed c l s' e' N W := by
  rcases hE with ⟨z, p, g1, rfl, ⟨u, y, rfl⟩, g4⟩ | ⟨m, cap, K, g1, rfl, rfl, g4, g5, g6⟩
  · have e1 : s' = .slice none 0 0 := by cases hs; rfl
    subst e1
    rcases g4 with ⟨i, q1, q2, q3, q4⟩ | ⟨m, i, q1, q2, q3, q4, q5, q6⟩
    · rw [q4] at he
      have e2 := h.sent H q1 he
      subst e2
      refine ⟨.inl ⟨z, p, g1, rfl, ⟨_, _, rfl⟩, .inl ⟨i, q1, q2, q3, rfl⟩⟩, fun x k q e => (by cases e), fun m e => ?_⟩
      exact absurd (Value.iface.inj e).1 (by decide)
    · rw [q4] at he
      obtain ⟨b, hr, rfl⟩ : ∃ b, ρ m b ∧ e' = fault b := by
        cases he with
        | iface t hy => cases hy with
          | @ptr _ b hr _ => exact ⟨b.block, hr.1, by rw [show b = ⟨b.block, 0, none⟩ from AR.same (a := ⟨b.block, 0, none⟩) rfl hr.2]⟩
      obtain ⟨v0, c0, k0⟩ := came_cell h.obj hr q5
      obtain ⟨v1, c1, k1⟩ := came_cell h.obj hr q6
      have k0 : v0 = .int .i64 p := by cases k0; rfl
      have k1 := h.sent H q2 k1
      subst k0 k1
      refine ⟨.inl ⟨z, p, g1, rfl, ⟨_, _, rfl⟩, .inr ⟨b, i, Nat.zero_le _, q2, q3, rfl, c0, c1⟩⟩, fun x k q e => (by cases e), fun m' e => ?_⟩
      cases e
      exact ⟨h.new H q1 hr, h.lone H hN q1 hr c0⟩
  · obtain ⟨b, hr, rfl⟩ : ∃ b, ρ m b ∧ s' = .slice (some ⟨b, 0, none⟩) 8 cap := by
      cases hs with
      | @sl _ b hr _ _ => exact ⟨b.block, hr.1, by rw [show b = ⟨b.block, 0, none⟩ from AR.same (a := ⟨b.block, 0, none⟩) rfl hr.2]⟩
    have e1 : e' = .nilIface := by cases he; rfl
    subst e1
    have hi : Ints W b 0 8 K := fun i hi => by
      obtain ⟨v, c0, k0⟩ := came_cell h.obj hr (g5 i hi)
      have k0 : v = .int .i64 (K i) := by cases k0; rfl
      subst k0
      exact c0
    refine ⟨.inr ⟨b, cap, K, g1, rfl, rfl, ⟨Nat.zero_le _, cell_lt (hi 0 (by omega))⟩, hi, g6⟩, fun x k q e => ?_, fun m e => by cases e⟩
    cases e
    exact ⟨h.new H g4.1 hr, h.lone H hN g4.1 hr (hi 0 (by omega))⟩
end came
theorem vr_agg2 {Fn : FnR} {ρ : Brel} {s e v : Value} (h : VR Fn ρ (.agg #[s, e]) v) : ∃ s' e', v = .agg #[s', e'] ∧ VR Fn ρ s s' ∧ VR Fn ρ e e' := by
  cases h with
  | @agg _ ys h1 h2 =>
    obtain ⟨l⟩ := ys
    match l, h1, h2 with
    | [a, b], _, h2 => exact ⟨a, b, rfl, h2 0 _ _ rfl rfl, h2 1 _ _ rfl rfl⟩
    | [], h1, _ => cases h1
    | [_], h1, _ => cases h1
    | _ :: _ :: _ :: _, h1, _ => simp at h1
structure LvIn (W : World) (S R : List Nat) (b0 b1 b2 b3 : Nat) (a la : Option Addr) (n cap ll lc seed : Nat) (Wt Lv : Nat → Int) (c : Int) : Prop where
  i0 : S.elem b0 = true ∧ R.elem b0 = false
  i1 : S.elem b1 = true ∧ R.elem b1 = false
  i2 : S.elem b2 = true ∧ R.elem b2 = false
  i3 : S.elem b3 = true ∧ R.elem b3 = false
  c0 : W.cell? ⟨b0, 0, none⟩ = some (.slice a n cap)
  c1 : W.cell? ⟨b1, 0, none⟩ = some (.int .u64 seed)
  c2 : W.cell? ⟨b2, 0, none⟩ = some (.int .i64 c)
  c3 : W.cell? ⟨b3, 0, none⟩ = some (.slice la ll lc)
  sa : SliceIn S a
  sl : SliceIn S la
  hI : IntsAre W a n Wt
  hJ : IntsAre W la ll Lv
section call
variable {W W1 : World} {S R : List Nat} {A : Nat → Addr} {b0 b1 b2 b3 : Nat} {a la : Option Addr} {n cap ll lc seed : Nat} {Wt Lv : Nat → Int} {c : Int}
theorem LvIn.keep (h : LvIn W S R b0 b1 b2 b3 a la n cap ll lc seed Wt Lv c) (hk : ∀ b, S.elem b = true → W1.heap[b]? = W.heap[b]?) (hz : W.heap.size ≤ W1.heap.size) : LvIn W1 S R b0 b1 b2 b3 a la n cap ll lc seed Wt Lv c :=
  ⟨h.i0, h.i1, h.i2, h.i3, cell_keep (a := ⟨b0, 0, none⟩) (hk _ h.i0.1) h.c0, cell_keep (a := ⟨b1, 0, none⟩) (hk _ h.i1.1) h.c1, cell_keep (a := ⟨b2, 0, none⟩) (hk _ h.i2.1) h.c2, cell_keep (a := ⟨b3, 0, none⟩) (hk _ h.i3.1) h.c3, h.sa, h.sl, are_keep h.sa hk hz h.hI, are_keep h.sl hk hz h.hJ⟩
theorem vrs5 {Fn : FnR} {ρ : Brel} {x0 x1 x2 x3 x4 : Value} (h0 : VR Fn ρ x0 x0) (h1 : VR Fn ρ x1 x1) (h2 : VR Fn ρ x2 x2) (h3 : VR Fn ρ x3 x3) (h4 : VR Fn ρ x4 x4) : VRs Fn ρ #[x0, x1, x2, x3, x4] #[x0, x1, x2, x3, x4] := ⟨rfl, fun i y z hy hz => by
  rw [hy] at hz
  cases hz
  match i with
  | 0 => simp at hy; subst hy; exact h0
  | 1 => simp at hy; subst hy; exact h1
  | 2 => simp at hy; subst hy; exact h2
  | 3 => simp at hy; subst hy; exact h3
  | 4 => simp at hy; subst hy; exact h4
  | _ + 5 => simp at hy⟩
variable {Sh O : Nat → Prop} {Stop : (Nat → Prop) → Goroutine → World → Prop} {main : Bool}
theorem level_call (H : House W S R A) (h : LvIn W S R b0 b1 b2 b3 a la n cap ll lc seed Wt Lv c) (hS : ∀ b, S.elem b = true → Sh b ∨ O b) (hO : ∀ b, O b ∨ Sh b → b < W.heap.size) (hs : seed < W64) (hn : n ≤ 9223372036854775807) (hll : ll ≤ 9223372036854775807) (k : Nat) (hk : k < ll) :
    CallW Tryd.prog main Sh Stop 14 #[.int .i64 k, .pointer (some ⟨b0, 0, none⟩), .pointer (some ⟨b1, 0, none⟩), .pointer (some ⟨b2, 0, none⟩), .pointer (some ⟨b3, 0, none⟩)] O W fun O' v W' =>
      ∃ Z s e, v = .agg #[s, e] ∧ (∀ b, O' b ↔ Z b ∨ O b) ∧ (∀ b, Z b → W.heap.size ≤ b ∧ b < W'.heap.size) ∧ LvMade A n Wt seed c (Lv k) s e Z W' ∧ Rely O Sh W W' := by
  refine Kin.callW (k := kin) (W := W) (S := S) (R := R) H.gl H.shared H.size (f := 14) (show (kA ++ kX).elem 14 = true from by decide)
    (vrs5 (.int _ _) (vr_ptr h.i0.1 h.i0.2) (vr_ptr h.i1.1 h.i1.2) (vr_ptr h.i2.1 h.i2.2) (vr_ptr h.i3.1 h.i3.2))
    (Q := fun _ e w' => ∃ s ev, e = .returned (.agg #[s, ev]) ∧ LvEnd W.heap.size w' A n Wt seed c (Lv k) s ev) (fun F hF T => ?_) (fun F e w q => ?_) hS hO (fun N v W' hN hr hc => ?_)
  · have L := H.lone hF T
    have sz : (World.tp (loneW (kin.Fn R) W S F) T 0).heap.size = W.heap.size := lone_size
    refine (level_of k b0 b1 b2 b3 a la n cap ll lc seed hs hn Wt Lv c A (World.tp (loneW (kin.Fn R) W S F) T 0) ⟨L.v1, L.v2, L.v3⟩ hk hll (lone_cell (a := ⟨b0, 0, none⟩) h.i0.1 h.c0 (vr_slice h.sa _ _)) (lone_cell (a := ⟨b1, 0, none⟩) h.i1.1 h.c1 (.int _ _)) (lone_cell (a := ⟨b2, 0, none⟩) h.i2.1 h.c2 (.int _ _)) (lone_cell (a := ⟨b3, 0, none⟩) h.i3.1 h.c3 (vr_slice h.sl _ _)) (are_lone h.sa h.hI) (are_lone h.sl h.hJ)).mono ?_
    rintro e w' ⟨s, ev, rfl, hE, _⟩
    rw [sz] at hE
    exact ⟨s, ev, rfl, hE⟩
  · obtain ⟨s, ev, rfl, _⟩ := q
    exact ⟨_, rfl⟩
  · obtain ⟨F, hF, u, w, ρ, hc⟩ := hc
    obtain ⟨T, D, s, ev, hu, hE⟩ := hc.q
    cases hu
    obtain ⟨s', e', rfl, v1, v2⟩ := vr_agg2 hc.v
    exact ⟨N, s', e', rfl, fun b => Iff.rfl, hN, hE.came hc H (fun b z => (hN b z).1) v1 v2, hr⟩
def LvSince (B : Nat) (A : Nat → Addr) (n : Nat) (Wt : Nat → Int) (seed : Nat) (c : Int) (Lv : Nat → Int) : Made := fun i s e Z W => LvMade A n Wt seed c (Lv i) s e Z W ∧ ∀ b, Z b → B ≤ b
theorem side_answers {W0 : World} {B : Nat} (hB : B ≤ W0.heap.size) (H : House W0 S R A) (h : LvIn W0 S R b0 b1 b2 b3 a la n cap ll lc seed Wt Lv c) (hS : ∀ b, S.elem b = true → Sh b ∨ O b) (hs : seed < W64) (hn : n ≤ 9223372036854775807) (hll : ll ≤ 9223372036854775807) :
    Answers Sh O W0 ll (LvSince B A n Wt seed c Lv) 14 #[.pointer (some ⟨b0, 0, none⟩), .pointer (some ⟨b1, 0, none⟩), .pointer (some ⟨b2, 0, none⟩), .pointer (some ⟨b3, 0, none⟩)] := by
  intro X Wp ltp hOX hr Stop i hi O1 W st lt1
  have kp : ∀ b, S.elem b = true → W.heap[b]? = W0.heap[b]? := fun b hb => by
    rw [st.1 b ((hS b hb).imp id (hOX b))]
    exact hr.keep b (H.lt hb) (hS b hb).symm
  have hz : W0.heap.size ≤ W.heap.size := Nat.le_trans hr.size st.2.2.2.2
  have e5 : (#[.int .i64 i] ++ #[.pointer (some ⟨b0, 0, none⟩), .pointer (some ⟨b1, 0, none⟩), .pointer (some ⟨b2, 0, none⟩), .pointer (some ⟨b3, 0, none⟩)] : Array Value) = #[.int .i64 i, .pointer (some ⟨b0, 0, none⟩), .pointer (some ⟨b1, 0, none⟩), .pointer (some ⟨b2, 0, none⟩), .pointer (some ⟨b3, 0, none⟩)] := by simp
  rw [e5]
  refine (level_call (main := false) (Sh := fun b => Sh b ∨ X b) (H.keep kp) (h.keep kp hz) (fun b hb => .inl ((hS b hb).imp id (hOX b))) lt1 hs hn hll i hi).mono ?_
  rintro O' v W' ⟨Z, s, e, rfl, h1, h2, h3, h4⟩
  refine ⟨Z, s, e, rfl, h1, fun b z q => ?_, ⟨h3, fun b z => by have := (h2 b z).1; omega⟩, fun b z => ⟨?_, (h2 b z).2⟩, stands_rely ltp st h4, fun b z => ?_⟩
  · have := lt1 b (.inl q); have := (h2 b z).1; omega
  · have := (h2 b z).1; have := st.2.2.2.2; omega
  · rcases z with z | z
    · rcases (h1 b).1 z with z | z
      · exact (h2 b z).2
      · exact Nat.lt_of_lt_of_le (lt1 b (.inl z)) h4.size
    · exact Nat.lt_of_lt_of_le (lt1 b (.inr z)) h4.size
end call
end Go.Proofs.YtmbfdhekplnoaaaDoor

namespace Go.Proofs.YtmbfdhekplnoaaaDoor
open Go Go.Conc

theorem pick {α : Type} [Inhabited α] {M : Nat} {P : Nat → α → Prop} (h : ∀ i, i < M → ∃ x, P i x) : ∃ f : Nat → α, ∀ i, i < M → P i (f i) :=
  ⟨fun i => if q : i < M then Classical.choose (h i q) else default, fun i hi => by simp only [hi, dite_true]; exact Classical.choose_spec (h i hi)⟩
theorem elem_app {l S : List Nat} {s : Nat} : (l ++ S).elem s = true ↔ s ∈ l ∨ S.elem s = true := by simp
section add
variable {W W1 : World} {S R l : List Nat} {A : Nat → Addr} {F : Nat → Bool}
theorem House.add (h : House W S R A) (hl : ∀ b ∈ l, Bare W ⟨b, 0, none⟩ ∨ S.elem b = true) : House W (l ++ S) R A := by
  refine ⟨⟨fun s hs => ?_, fun a ha => ⟨elem_app.2 (.inr (h.shared.2 a ha).1), (h.shared.2 a ha).2⟩⟩, h.laid, fun g hg => elem_app.2 (.inr (h.gl g hg)), fun i hi => ⟨elem_app.2 (.inr (h.err i hi).1), (h.err i hi).2⟩⟩
  rcases elem_app.1 hs with q | q
  · rcases hl s q with ⟨c, t, z⟩ | z
    · exact ⟨c, t, _, z, .inl rfl⟩
    · exact h.shared.1 s z
  · exact h.shared.1 s q
theorem House.fresh (h : House W S R A) {b : Nat} (hb : W.heap.size ≤ b) : R.elem b = false := by
  cases q : R.elem b with
  | false => rfl
  | true => have := h.lt (h.shared.2 b q).1; omega
theorem LvEnd.lone (H : House W S R A) {T : Nat → Question → Nat} {n seed : Nat} {Wt : Nat → Int} {c l : Int} {s e : Value} (h : LvEnd 0 W A n Wt seed c l s e) (hs : ∀ x k q, s = .slice (some x) k q → S.elem x.block = true) (he : ∀ m, e = fault m → S.elem m = true ∧ R.elem m = false) :
    LvEnd 0 (World.tp (loneW (kin.Fn R) W S F) T 0) A n Wt seed c l s e ∧ VR (kin.Fn R) (IdS fun i => S.elem i = true) s s ∧ VR (kin.Fn R) (IdS fun i => S.elem i = true) e e := by
  rcases h with ⟨z, p, g1, rfl, g3, g4⟩ | ⟨m, cap, K, g1, rfl, rfl, g4, g5, g6⟩
  · rcases g4 with ⟨i, q1, q2, q3, rfl⟩ | ⟨m, i, q1, q2, q3, rfl, q5, q6⟩
    · exact ⟨.inl ⟨z, p, g1, rfl, g3, .inl ⟨i, q1, q2, q3, rfl⟩⟩, .nilSlice _ _, H.sent q1⟩
    · have q := he m rfl
      exact ⟨.inl ⟨z, p, g1, rfl, g3, .inr ⟨m, i, q1, q2, q3, rfl, lone_cell (a := ⟨m, 0, none⟩) q.1 q5 (.int _ _), lone_cell (a := ⟨m, 1, none⟩) q.1 q6 (H.sent q2)⟩⟩, .nilSlice _ _, .iface _ (vr_ptr (a := ⟨m, 0, none⟩) q.1 q.2)⟩
  · have q := hs _ _ _ rfl
    exact ⟨.inr ⟨m, cap, K, g1, rfl, rfl, ⟨g4.1, by show m < (loneW (kin.Fn R) W S F).heap.size; rw [lone_size]; exact g4.2⟩, ints_lone q g5, g6⟩, .sl ⟨⟨rfl, q⟩, rfl, rfl⟩ _ _, .nilIface⟩
def AllMade (A : Nat → Addr) (n : Nat) (Wt : Nat → Int) (seed : Nat) (c : Int) (M : Nat) (Lv : Nat → Int) (s e : Value) (S R : List Nat) (W : World) : Prop :=
  AllEnd W A n Wt seed c M Lv s e ∧ (∀ x k q, s = .slice (some x) k q → S.elem x.block = true ∧ ∀ j, j < k → ∀ y k' q', W.cell? ⟨x.block, j, none⟩ = some (.slice (some y) k' q') → S.elem y.block = true) ∧ ∀ m, e = fault m → S.elem m = true ∧ R.elem m = false
variable {n seed M : Nat} {Wt Lv : Nat → Int} {c : Int} {s e s' e' : Value}
theorem AllMade.lone (h : AllMade A n Wt seed c M Lv s e S R W) (H : House W S R A) {T : Nat → Question → Nat} :
    AllEnd (World.tp (loneW (kin.Fn R) W S F) T 0) A n Wt seed c M Lv s e ∧ VR (kin.Fn R) (IdS fun i => S.elem i = true) s s ∧ VR (kin.Fn R) (IdS fun i => S.elem i = true) e e := by
  obtain ⟨hE, h1, h2⟩ := h
  rcases hE with ⟨i0, i, m, p, g1, g2, g3, g4, rfl, rfl, g7, g8⟩ | ⟨g1, m, cap', rfl, rfl, ⟨d, t, f, g4⟩, g5⟩
  · have q := h2 m rfl
    exact ⟨.inl ⟨i0, i, m, p, g1, g2, g3, g4, rfl, rfl, lone_cell (a := ⟨m, 0, none⟩) q.1 g7 (.int _ _), lone_cell (a := ⟨m, 1, none⟩) q.1 g8 (H.sent g3)⟩, .nilSlice _ _, .iface _ (vr_ptr (a := ⟨m, 0, none⟩) q.1 q.2)⟩
  · obtain ⟨q1, q2⟩ := h1 _ _ _ rfl
    refine ⟨.inr ⟨g1, m, cap', rfl, rfl, ⟨_, _, _, lone_at q1 g4⟩, fun j hj => ?_⟩, .sl ⟨⟨rfl, q1⟩, rfl, rfl⟩ _ _, .nilIface⟩
    obtain ⟨mj, cj, K, c0, l0, i0, t0⟩ := g5 j hj
    have hj' := q2 j hj _ _ _ c0
    exact ⟨mj, cj, K, lone_cell (a := ⟨m, j, none⟩) q1 c0 (.sl ⟨⟨rfl, hj'⟩, rfl, rfl⟩ _ _), by show mj < (loneW (kin.Fn R) W S F).heap.size; rw [lone_size]; exact l0, ints_lone hj' i0, t0⟩
variable {Q : Ending → World → Prop} {N : Nat → Prop} {v' u : Value} {W0 w : World} {ρ : Brel}
theorem Came.held (h : Came kin S R Q N v' W u w ρ) {a b : Nat} (r : ρ a b) {d : Array Value} {t : TypeId} {f : Nat × Nat} (hc : W.heap[b]? = some (.cells d t f)) : (N b ∧ Bare W ⟨b, 0, none⟩) ∨ S.elem b = true := by
  cases q : S.elem b with
  | true => exact .inr rfl
  | false =>
    rcases h.img a b r with z | ⟨_, z⟩
    · have := h.bare a b r q d t f hc
      subst this
      exact .inl ⟨z, d, t, hc⟩
    · rw [q] at z; cases z
theorem cell_in {w : World} {b off : Nat} {v : Value} (h : w.cell? ⟨b, off, none⟩ = some v) : ∃ d t f, w.heap[b]? = some (.cells d t f) := by
  unfold World.cell? at h
  cases hb : w.heap[b]? with
  | none => simp [hb] at h
  | some o => cases o with
    | cells d t f => exact ⟨d, t, f, rfl⟩
    | _ => simp [hb] at h
theorem vr_sl {Fn : FnR} {m k q : Nat} {v : Value} (h : VR Fn ρ (.slice (some ⟨m, 0, none⟩) k q) v) : ∃ b, ρ m b ∧ v = .slice (some ⟨b, 0, none⟩) k q := by
  cases h with
  | @sl _ b hr _ _ => exact ⟨b.block, hr.1, by rw [show b = ⟨b.block, 0, none⟩ from AR.same (a := ⟨b.block, 0, none⟩) rfl hr.2]⟩
theorem AllEnd.came (h : Came kin S R Q N v' W u w ρ) (H : House W0 S R A) (hN : ∀ b, N b → W0.heap.size ≤ b) {T : Nat → Question → Nat} {D : Nat}
    (hE : AllEnd (World.tp w T D) A n Wt seed c M Lv s e) (hs : VR (kin.Fn R) ρ s s') (he : VR (kin.Fn R) ρ e e') : ∃ bl : List Nat, (∀ b ∈ bl, (N b ∧ Bare W ⟨b, 0, none⟩) ∨ S.elem b = true) ∧ AllMade A n Wt seed c M Lv s' e' bl R W := by
  rcases hE with ⟨i0, i, m, p, g1, g2, g3, g4, rfl, rfl, g7, g8⟩ | ⟨g1, m, cap', rfl, rfl, ⟨d, t, f, g4⟩, g5⟩
  · have e1 : s' = .slice none 0 0 := by cases hs; rfl
    subst e1
    obtain ⟨b, hr, hn, rfl⟩ : ∃ b, ρ m b ∧ R.elem m ≠ true ∧ e' = fault b := by
      cases he with
      | iface t hy => cases hy with
        | @ptr _ b hr hn => exact ⟨b.block, hr.1, hn, by rw [show b = ⟨b.block, 0, none⟩ from AR.same (a := ⟨b.block, 0, none⟩) rfl hr.2]⟩
    obtain ⟨v0, c0, k0⟩ := came_cell h.obj hr g7
    obtain ⟨v1, c1, k1⟩ := came_cell h.obj hr g8
    have k0 : v0 = .int .i64 i0 := by cases k0; rfl
    have k1 := h.sent H g3 k1
    subst k0 k1
    obtain ⟨d, t, f, hb⟩ := cell_in c0
    have hh := h.held hr hb
    refine ⟨[b], fun x hx => by rw [List.mem_singleton.1 hx]; exact hh, .inl ⟨i0, i, b, p, g1, g2, g3, g4, rfl, rfl, c0, c1⟩, fun x k q e => (by cases e), fun m' e => ?_⟩
    cases e
    refine ⟨by simp, ?_⟩
    rcases hh with z | z
    · cases q : R.elem b with
      | false => rfl
      | true => have := H.lt (H.shared.2 b q).1; have := hN b z.1; omega
    · have := h.one.inj hr (h.sh b z)
      subst this
      simpa using hn
  · obtain ⟨b, hr, rfl⟩ := vr_sl hs
    have e1 : e' = .nilIface := by cases he; rfl
    subst e1
    obtain ⟨o, o', ho, ho', hor⟩ := h.obj m b hr
    have ho : (World.tp w T D).heap[m]? = some o := ho
    rw [g4] at ho
    cases ho
    obtain ⟨d', f', hb⟩ : ∃ d' f', W.heap[b]? = some (.cells d' t f') := by cases hor; exact ⟨_, _, ho'⟩
    obtain ⟨B, hB⟩ := pick (M := M) (P := fun j bj => ∃ cj K, W.cell? ⟨b, j, none⟩ = some (.slice (some ⟨bj, 0, none⟩) 8 cj) ∧ Ints W bj 0 8 K ∧ (∀ r : Nat, r < 8 → Turn n Wt seed c (Lv j) r (K r)) ∧ ((N bj ∧ Bare W ⟨bj, 0, none⟩) ∨ S.elem bj = true)) fun j hj => by
      obtain ⟨mj, cj, K, c0, l0, i0, t0⟩ := g5 j hj
      obtain ⟨v, c1, k1⟩ := came_cell h.obj hr c0
      obtain ⟨bj, rj, rfl⟩ := vr_sl k1
      have hi : Ints W bj 0 8 K := fun i hi => by
        obtain ⟨v, c0, k0⟩ := came_cell h.obj rj (i0 i hi)
        have k0 : v = .int .i64 (K i) := by cases k0; rfl
        subst k0
        exact c0
      obtain ⟨d, t, f, hbj⟩ := cell_in (hi 0 (by omega))
      exact ⟨bj, cj, K, c1, hi, t0, h.held rj hbj⟩
    refine ⟨b :: (List.range M).map B, fun x hx => ?_, .inr ⟨g1, b, cap', rfl, rfl, ⟨_, _, _, hb⟩, fun j hj => ?_⟩, fun x k q e => ?_, fun m e => by cases e⟩
    · rcases List.mem_cons.1 hx with rfl | hx
      · exact h.held hr hb
      · obtain ⟨j, hj, rfl⟩ := List.mem_map.1 hx
        obtain ⟨_, _, _, _, _, z⟩ := hB j (List.mem_range.1 hj)
        exact z
    · obtain ⟨cj, K, z1, z2, z3, _⟩ := hB j hj
      exact ⟨B j, cj, K, z1, cell_lt (z2 0 (by omega)), z2, z3⟩
    · cases e
      refine ⟨by simp, fun j hj y k' q' z => ?_⟩
      obtain ⟨cj, K, z1, _⟩ := hB j hj
      rw [z1] at z
      cases z
      simp only [List.elem_eq_mem, decide_eq_true_eq]
      exact .tail _ (List.mem_map.2 ⟨j, List.mem_range.2 hj, rfl⟩)
end add
theorem vr_tup2 {Fn : FnR} {ρ : Brel} {s e v : Value} (h : VR Fn ρ (.tuple #[s, e]) v) : ∃ s' e', v = .tuple #[s', e'] ∧ VR Fn ρ s s' ∧ VR Fn ρ e e' := by
  cases h with
  | @tuple _ ys h1 h2 =>
    obtain ⟨l⟩ := ys
    match l, h1, h2 with
    | [a, b], _, h2 => exact ⟨a, b, rfl, h2 0 _ _ rfl rfl, h2 1 _ _ rfl rfl⟩
    | [], h1, _ => cases h1
    | [_], h1, _ => cases h1
    | _ :: _ :: _ :: _, h1, _ => simp at h1
section call
variable {W : World} {S R : List Nat} {A : Nat → Addr} {n M seed lb : Nat} {Wt Lv : Nat → Int} {c : Int} {Sh O : Nat → Prop} {Stop : (Nat → Prop) → Goroutine → World → Prop} {main : Bool}
theorem bakers_call {B : Nat} (H : House W S R A) (hR : ∀ b, R.elem b = true → b < B) (hS : ∀ b, S.elem b = true → Sh b) (hO : ∀ b, O b ∨ Sh b → b < W.heap.size) (hM : M ≤ 1000) (hA : AllIn M (LvSince B A n Wt seed c Lv) lb O W) :
    CallW Tryd.prog main Sh Stop 12 #[.slice (some ⟨lb, 0, none⟩) M M] O W fun O' v W' =>
      ∃ s e bl, v = .tuple #[s, e] ∧ (∀ b ∈ bl, (O' b ∧ Bare W' ⟨b, 0, none⟩) ∨ S.elem b = true) ∧ AllMade A n Wt seed c M Lv s e bl R W' ∧ Rely O Sh W W' ∧ ∀ b, O' b ∨ Sh b → b < W'.heap.size := by
  obtain ⟨p, hp⟩ := pick (α := Value × Value) (M := M) (P := fun i x => ∃ Z, W.cell? ⟨lb, i * 2, none⟩ = some x.1 ∧ W.cell? ⟨lb, i * 2 + 1, none⟩ = some x.2 ∧ LvSince B A n Wt seed c Lv i x.1 x.2 Z W ∧ ∀ b, Z b → O b ∧ b ≠ lb) fun i hi => by
    obtain ⟨s, e, Z, h⟩ := hA.got i hi
    exact ⟨(s, e), Z, h⟩
  let blk : Value → List Nat := fun v => match v with | .slice (some x) _ _ => [x.block] | .iface _ (.pointer (some x)) => [x.block] | _ => []
  let l : List Nat := lb :: (List.range M).flatMap fun i => blk (p i).1 ++ blk (p i).2
  have mem1 : ∀ i, i < M → ∀ b, b ∈ blk (p i).1 ∨ b ∈ blk (p i).2 → b ∈ l := fun i hi b hb => .tail _ (List.mem_flatMap.2 ⟨i, List.mem_range.2 hi, List.mem_append.2 hb⟩)
  have ofs : ∀ i, i < M → ∀ b, b ∈ blk (p i).1 ∨ b ∈ blk (p i).2 → (O b ∧ Bare W ⟨b, 0, none⟩) ∨ S.elem b = true := fun i hi b hb => by
    obtain ⟨Z, _, _, ⟨⟨hE, h1, h2⟩, _⟩, hz⟩ := hp i hi
    rcases hE with ⟨z, q, g1, g2, g3, g4⟩ | ⟨m, cap, K, g1, g2, g3, g4⟩
    · rw [g2] at hb
      rcases g4 with ⟨k, q1, q2, q3, q4⟩ | ⟨m, k, q1, q2, q3, q4, _⟩
      · rw [q4] at hb
        have hb : b = (A k).block := by simpa [blk, sent] using hb
        rw [hb]; exact .inr (H.err k q1).1
      · have z := h2 m q4
        rw [q4] at hb
        have hb : b = m := by simpa [blk, fault] using hb
        rw [hb]; exact .inl ⟨(hz m z.1).1, z.2⟩
    · have z := h1 _ _ _ g2
      rw [g2, g3] at hb
      have hb : b = m := by simpa [blk] using hb
      rw [hb]; exact .inl ⟨(hz m z.1).1, z.2⟩
  have own : ∀ b ∈ l, (O b ∧ Bare W ⟨b, 0, none⟩) ∨ S.elem b = true := fun b hb => by
    rcases List.mem_cons.1 hb with rfl | hb
    · exact .inl ⟨hA.own, hA.bare⟩
    · obtain ⟨i, hi, hb⟩ := List.mem_flatMap.1 hb
      exact ofs i (List.mem_range.1 hi) b (List.mem_append.1 hb)
  have H2 := H.add fun b hb => (own b hb).imp And.right id
  have each : ∀ (F : Nat → Bool) (T : Nat → Question → Nat) i, i < M → LvEnd 0 (World.tp (loneW (kin.Fn R) W (l ++ S) F) T 0) A n Wt seed c (Lv i) (p i).1 (p i).2 ∧ VR (kin.Fn R) (IdS fun i => (l ++ S).elem i = true) (p i).1 (p i).1 ∧ VR (kin.Fn R) (IdS fun i => (l ++ S).elem i = true) (p i).2 (p i).2 := fun F T i hi => by
    obtain ⟨Z, _, _, ⟨⟨hE, h1, h2⟩, hn⟩, hz⟩ := hp i hi
    refine hE.lone H2 (fun x k q e => elem_app.2 (.inl (mem1 i hi _ (.inl (by rw [e]; simp [blk]))))) fun m e => ⟨elem_app.2 (.inl (mem1 i hi _ (.inr (by rw [e]; simp [blk, fault])))), ?_⟩
    cases q : R.elem m with
    | false => rfl
    | true => have := hR m q; have := hn m (h2 m e).1; omega
  have lin : (l ++ S).elem lb = true := elem_app.2 (.inl (.head _))
  refine Kin.callW (k := kin) (W := W) (S := l ++ S) (R := R) H2.gl H2.shared H2.size (f := 12) (show (kA ++ kX).elem 12 = true from by decide)
    (vrs1 (.sl ⟨⟨rfl, lin⟩, rfl, rfl⟩ _ _))
    (Q := fun _ e w' => ∃ s ev, e = .returned (.tuple #[s, ev]) ∧ AllEnd w' A n Wt seed c M Lv s ev) (fun F hF T => ?_) (fun F e w q => ?_) (fun b hb => ?_) hO (fun N v W' hN hr hc => ?_)
  · refine (bakers_of 0 lb M M n seed hM Wt Lv c (fun i => (p i).1) (fun i => (p i).2) A _ (H2.lone hF T) (fun _ => by show lb < (loneW (kin.Fn R) W (l ++ S) F).heap.size; rw [lone_size]; exact H2.lt lin) fun i hi => ?_).mono ?_
    · obtain ⟨Z, c1, c2, _⟩ := hp i hi
      obtain ⟨e1, e2, e3⟩ := each F T i hi
      exact ⟨lone_cell (a := ⟨lb, i * 2, none⟩) lin c1 e2, lone_cell (a := ⟨lb, i * 2 + 1, none⟩) lin c2 e3, e1⟩
    · rintro e w' ⟨s, ev, rfl, hE, _⟩
      exact ⟨s, ev, rfl, hE⟩
  · obtain ⟨s, ev, rfl, _⟩ := q
    exact ⟨_, rfl⟩
  · rcases elem_app.1 hb with q | q
    · exact (own b q).elim (fun z => .inr z.1) fun z => .inl (hS b z)
    · exact .inl (hS b q)
  · obtain ⟨F, hF, u, w, ρ, hc⟩ := hc
    obtain ⟨T, D, s, ev, hu, hE⟩ := hc.q
    cases hu
    obtain ⟨s', e', rfl, v1, v2⟩ := vr_tup2 hc.v
    obtain ⟨bl, h1, h2⟩ := hE.came hc H2 (fun b z => (hN b z).1) v1 v2
    refine ⟨s', e', bl, rfl, fun b hb => ?_, h2, hr, fun b z => ?_⟩
    · rcases h1 b hb with z | z
      · exact .inl ⟨.inl z.1, z.2⟩
      · rcases elem_app.1 z with q | q
        · rcases own b q with y | y
          · refine .inl ⟨.inr y.1, bare_keep y.2 (hr.keep b (hO b (.inl y.1)) (.inl y.1))⟩
          · exact .inr y
        · exact .inr q
    · rcases z with (z | z) | z
      · exact (hN b z).2
      · exact Nat.lt_of_lt_of_le (hO b (.inl z)) hr.size
      · exact Nat.lt_of_lt_of_le (hO b (.inr z)) hr.size
end call
end Go.Proofs.YtmbfdhekplnoaaaDoor

namespace Go.Proofs.YtmbfdhekplnoaaaDoor
open Go Go.Conc Go.RowKit Go.Conc.Lib Go.ConcR.Gen
open Go.ConcR (KK WgAt stA smA)

noncomputable def rtOps : Array Oper := match Tryd.f5.body with
  | some (.seq _ (.seq _ (.seq (.region _ ops _) _))) => ops
  | _ => #[]
noncomputable def rtCall (wp lp : Option Addr) (wl wc ll lc : Nat) (seed : Int) (cycle wk : Int) (b0 b1 b2 b3 : Nat) : Frame :=
  (base 5).at ⟨#[.slice wp wl wc, .int .u64 seed, .int .i64 cycle, .slice lp ll lc, .int .i64 wk, .pointer (some ⟨b0, 0, none⟩), .pointer (some ⟨b1, 0, none⟩), .pointer (some ⟨b2, 0, none⟩), .pointer (some ⟨b3, 0, none⟩), undef, .slice none 0 0, .nilIface, .nilIface, .slice lp ll lc, .int .i64 ll, .int .i64 wk, .nilIface, .nilIface, .bool false, undef, .slice lp ll lc, .int .i64 ll, .int .i64 wk, .func (.func 14) #[] #[.pointer (some ⟨b0, 0, none⟩), .pointer (some ⟨b1, 0, none⟩), .pointer (some ⟨b2, 0, none⟩), .pointer (some ⟨b3, 0, none⟩)], undef, undef, undef, undef], []⟩ [.inRegion rtOps [4, 5, 6, 7, 8, 9], .code .ret]
theorem ev_nil (w : World) (es : Array Event) : (binOp .neq 27 .nilIface .nilIface).events Tryd.prog w es = es := by kernel_rfl
section of
variable {Sh O : Nat → Prop} {Stop : Stp} {cs : List Frame} {wp lp : Option Addr} {wl wc ll lc : Nat} {seed cycle : Int} {wk : Nat} {W0 : World}
set_option maxRecDepth 100000 in
set_option maxHeartbeats 4000000 in
theorem rights_in (hwk : 1 ≤ wk ∧ wk ≤ 16) (hll : ll ≤ 100) (lt : ∀ b, O b ∨ Sh b → b < W0.heap.size)
    (h : ∀ b0 b1 b2 b3 O' W, Stock O Sh W0 [(b3, .cells #[.slice lp ll lc] 22 (0, 0)), (b2, .cells #[.int .i64 cycle] 3 (0, 0)), (b1, .cells #[.int .u64 seed] 23 (0, 0)), (b0, .cells #[.slice wp wl wc] 22 (0, 0))] O' W →
      Walks Tryd.prog true Sh Stop O' (G ((base 13).at ⟨#[.int .i64 ll, .int .i64 wk, .func (.func 14) #[] #[.pointer (some ⟨b0, 0, none⟩), .pointer (some ⟨b1, 0, none⟩), .pointer (some ⟨b2, 0, none⟩), .pointer (some ⟨b3, 0, none⟩)]] ++ Array.replicate (Tryd.f13.ntmps - 3) undef, []⟩ [.code (Tryd.f13.body.getD .skip)]) (rtCall wp lp wl wc ll lc seed cycle wk b0 b1 b2 b3 :: cs)) W) :
    Walks Tryd.prog true Sh Stop O (G ((base 5).at ⟨#[.slice wp wl wc, .int .u64 seed, .int .i64 cycle, .slice lp ll lc, .int .i64 wk] ++ Array.replicate (Tryd.f5.ntmps - 5) undef, []⟩ [.code (Tryd.f5.body.getD .skip)]) cs) W0 := by
  have hS := Stock.begin (O := O) (Sh := Sh) (W := W0) lt
  have ev_nil := ev_nil
  have q1 : ¬ ((wk : Nat) : Int) < 1 := by omega
  have q2 : ¬ (16 : Int) < ((wk : Nat) : Int) := by omega
  have q3 : ¬ (100 : Int) < ((ll : Nat) : Int) := by omega
  walk_nrmf Tryd.f5
  refine Walks.idle rfl (fun _ => stepG_seq) ?_
  refine Walks.idle rfl (fun _ => stepG_region) ?_
  simp only [List.size_toArray, List.length_cons, List.length_nil, Nat.reduceAdd, Nat.zero_add, List.range, List.range.loop]
  refine walks_goes rfl (fun W1 hr => ?_)
  replace hS := hS.rely hr
  clear hr
  refine goes_oper_k rfl rfl (by k_ne) (fun K' hK => ?_)
  go_simp
  refine hK _ _ ⟨_, guar_alloc (fun e he => by have hm := mem_listed he; simp [go_sem, *] at hm), ?_⟩
  clear hK K'
  replace hS := hS.alloc (.cells #[.slice wp wl wc] 22 (0, 0))
  generalize W1.heap.size = b0 at *
  generalize W1.alloc (.cells #[.slice wp wl wc] 22 (0, 0)) = W2 at *
  clear W1
  refine walks_goes rfl (fun W1 hr => ?_)
  replace hS := hS.rely hr
  clear hr
  refine goes_oper_k rfl rfl (by k_ne) (fun K' hK => ?_)
  go_simp
  refine hK _ _ ⟨_, guar_alloc (fun e he => by have hm := mem_listed he; simp [go_sem, *] at hm), ?_⟩
  clear hK K'
  replace hS := hS.alloc (.cells #[.int .u64 seed] 23 (0, 0))
  generalize W1.heap.size = b1 at *
  generalize W1.alloc (.cells #[.int .u64 seed] 23 (0, 0)) = W2 at *
  clear W1
  refine walks_goes rfl (fun W1 hr => ?_)
  replace hS := hS.rely hr
  clear hr
  refine goes_oper_k rfl rfl (by k_ne) (fun K' hK => ?_)
  go_simp
  refine hK _ _ ⟨_, guar_alloc (fun e he => by have hm := mem_listed he; simp [go_sem, *] at hm), ?_⟩
  clear hK K'
  replace hS := hS.alloc (.cells #[.int .i64 cycle] 3 (0, 0))
  generalize W1.heap.size = b2 at *
  generalize W1.alloc (.cells #[.int .i64 cycle] 3 (0, 0)) = W2 at *
  clear W1
  refine walks_goes rfl (fun W1 hr => ?_)
  replace hS := hS.rely hr
  clear hr
  refine goes_oper_k rfl rfl (by k_ne) (fun K' hK => ?_)
  go_simp
  refine hK _ _ ⟨_, guar_alloc (fun e he => by have hm := mem_listed he; simp [go_sem, *] at hm), ?_⟩
  clear hK K'
  replace hS := hS.alloc (.cells #[.slice lp ll lc] 22 (0, 0))
  generalize W1.heap.size = b3 at *
  generalize W1.alloc (.cells #[.slice lp ll lc] 22 (0, 0)) = W2 at *
  clear W1
  refine walks_goes rfl (fun W1 hr => ?_)
  replace hS := hS.rely hr
  clear hr
  refine goes_oper_k rfl rfl (by k_ne) (fun K' hK => ?_)
  go_simp
  refine hK _ _ ⟨_, guar_none (fun e he => by have hm := mem_listed he; simp [go_sem, *] at hm), ?_⟩
  clear hK K'
  refine walks_goes rfl (fun W1 hr => ?_)
  replace hS := hS.rely hr
  clear hr
  refine goes_oper_k rfl rfl (by k_ne) (fun K' hK => ?_)
  go_simp
  refine hK _ _ ⟨_, guar_none (fun e he => by have hm := mem_listed he; simp [go_sem, *] at hm), ?_⟩
  clear hK K'
  refine Walks.idle rfl (fun _ => stepG_region_end) ?_
  refine Walks.idle rfl (fun _ => stepG_seq) ?_
  refine Walks.idle rfl (fun _ => stepG_seq) ?_
  refine Walks.idle rfl (fun _ => stepG_region) ?_
  simp only [List.size_toArray, List.length_cons, List.length_nil, Nat.reduceAdd, Nat.zero_add, List.range, List.range.loop]
  refine walks_goes rfl (fun W1 hr => ?_)
  replace hS := hS.rely hr
  clear hr
  obtain ⟨k0, g0⟩ := hS.cell (.head _)
  refine goes_oper_k rfl rfl (by k_ne) (fun K' hK => ?_)
  go_simp
  refine hK _ _ ⟨_, guar_reads (fun e he => ?_), ?_⟩
  · have hm := mem_listed he
    simp [go_sem, *] at hm
    subst hm
    exact ⟨_, rfl, .inl ((hS.own _).2 (.inr ⟨_, (.head _)⟩))⟩
  clear hK K' k0 g0
  refine walks_goes rfl (fun W1 hr => ?_)
  replace hS := hS.rely hr
  clear hr
  refine goes_oper_k rfl rfl (by k_ne) (fun K' hK => ?_)
  go_simp
  refine hK _ _ ⟨_, guar_none (fun e he => by have hm := mem_listed he; simp [go_sem, *] at hm), ?_⟩
  clear hK K'
  refine walks_goes rfl (fun W1 hr => ?_)
  replace hS := hS.rely hr
  clear hr
  refine goes_oper_k rfl rfl (by k_ne) (fun K' hK => ?_)
  go_simp
  refine hK _ _ ⟨_, guar_none (fun e he => by have hm := mem_listed he; simp [go_sem, *] at hm), ?_⟩
  clear hK K'
  refine walks_goes rfl (fun W1 hr => ?_)
  replace hS := hS.rely hr
  clear hr
  refine goes_call rfl rfl (by k_ne) rfl Tryd.func11 (by kernel_rfl) rfl ⟨_, Guar.refl _ _ _, ?_⟩
  walk_nrmf Tryd.f11
  refine Walks.idle rfl (fun _ => stepG_seq) ?_
  refine Walks.idle rfl (fun _ => stepG_region) ?_
  simp only [List.size_toArray, List.length_cons, List.length_nil, Nat.zero_add, List.range, List.range.loop]
  refine walks_goes rfl (fun W1 hr => ?_)
  replace hS := hS.rely hr
  clear hr
  refine goes_oper_k rfl rfl (by k_ne) (fun K' hK => ?_)
  go_simp
  refine hK _ _ ⟨_, guar_none (fun e he => by have hm := mem_listed he; simp [go_sem, *] at hm), ?_⟩
  clear hK K'
  refine Walks.idle rfl (fun _ => stepG_region_end) ?_
  refine Walks.idle rfl (fun _ => stepG_seq) ?_
  refine Walks.idle rfl (fun _ => stepG_seq) ?_
  refine Walks.idle rfl (fun _ => stepG_region) ?_
  simp only [List.size_toArray, List.length_cons, List.length_nil, Nat.reduceAdd, Nat.zero_add, List.range, List.range.loop]
  refine walks_goes rfl (fun W1 hr => ?_)
  replace hS := hS.rely hr
  clear hr
  refine goes_oper_k rfl rfl (by k_ne) (fun K' hK => ?_)
  go_simp
  refine hK _ _ ⟨_, guar_none (fun e he => by have hm := mem_listed he; simp [go_sem, *] at hm), ?_⟩
  clear hK K'
  refine walks_goes rfl (fun W1 hr => ?_)
  replace hS := hS.rely hr
  clear hr
  refine goes_oper_k rfl rfl (by k_ne) (fun K' hK => ?_)
  go_simp
  refine hK _ _ ⟨_, guar_none (fun e he => by have hm := mem_listed he; simp [go_sem, *] at hm), ?_⟩
  clear hK K'
  refine walks_goes rfl (fun W1 hr => ?_)
  replace hS := hS.rely hr
  clear hr
  refine goes_oper_k rfl rfl (by k_ne) (fun K' hK => ?_)
  go_simp
  refine hK _ _ ⟨_, guar_none (fun e he => by have hm := mem_listed he; simp [go_sem, *] at hm), ?_⟩
  clear hK K'
  refine walks_goes rfl (fun W1 hr => ?_)
  replace hS := hS.rely hr
  clear hr
  refine goes_oper_k rfl rfl (by k_ne) (fun K' hK => ?_)
  go_simp
  refine hK _ _ ⟨_, guar_none (fun e he => by have hm := mem_listed he; simp [go_sem, *] at hm), ?_⟩
  clear hK K'
  refine walks_goes rfl (fun W1 hr => ?_)
  replace hS := hS.rely hr
  clear hr
  refine goes_oper_k rfl rfl (by k_ne) (fun K' hK => ?_)
  go_simp
  refine hK _ _ ⟨_, guar_none (fun e he => by have hm := mem_listed he; simp [go_sem, *] at hm), ?_⟩
  clear hK K'
  refine walks_goes rfl (fun W1 hr => ?_)
  replace hS := hS.rely hr
  clear hr
  refine goes_oper_k rfl rfl (by k_ne) (fun K' hK => ?_)
  go_simp
  refine hK _ _ ⟨_, guar_none (fun e he => by have hm := mem_listed he; simp [go_sem, *] at hm), ?_⟩
  clear hK K'
  refine Walks.idle rfl (fun _ => stepG_region_end) ?_
  refine Walks.idle rfl (fun _ => stepG_cond (t := false) rfl) ?_
  simp only [Bool.false_eq_true, ↓reduceIte]
  refine Walks.idle rfl (fun _ => stepG_skip) ?_
  refine Walks.idle rfl (fun _ => stepG_seq) ?_
  refine Walks.idle rfl (fun _ => stepG_seq) ?_
  refine Walks.idle rfl (fun _ => stepG_region) ?_
  simp only [List.size_toArray, List.length_cons, List.length_nil, Nat.reduceAdd, Nat.zero_add, List.range, List.range.loop]
  refine walks_goes rfl (fun W1 hr => ?_)
  replace hS := hS.rely hr
  clear hr
  refine goes_oper_k rfl rfl (by k_ne) (fun K' hK => ?_)
  go_simp
  refine hK _ _ ⟨_, guar_none (fun e he => by have hm := mem_listed he; simp [go_sem, *] at hm), ?_⟩
  clear hK K'
  refine walks_goes rfl (fun W1 hr => ?_)
  replace hS := hS.rely hr
  clear hr
  refine goes_oper_k rfl rfl (by k_ne) (fun K' hK => ?_)
  go_simp
  refine hK _ _ ⟨_, guar_none (fun e he => by have hm := mem_listed he; simp [go_sem, *] at hm), ?_⟩
  clear hK K'
  refine Walks.idle rfl (fun _ => stepG_region_end) ?_
  refine Walks.idle rfl (fun _ => stepG_cond (t := false) rfl) ?_
  simp only [Bool.false_eq_true, ↓reduceIte]
  refine Walks.idle rfl (fun _ => stepG_skip) ?_
  refine Walks.idle rfl (fun _ => stepG_seq) ?_
  refine Walks.idle rfl (fun _ => stepG_region) ?_
  simp only [List.size_toArray, List.length_cons, List.length_nil, Nat.zero_add, List.range, List.range.loop]
  refine walks_goes rfl (fun W1 hr => ?_)
  replace hS := hS.rely hr
  clear hr
  refine goes_oper_k rfl rfl (by k_ne) (fun K' hK => ?_)
  go_simp
  refine hK _ _ ⟨_, guar_none (fun e he => by have hm := mem_listed he; simp [go_sem, *] at hm), ?_⟩
  clear hK K'
  refine Walks.idle rfl (fun _ => stepG_region_end) ?_
  refine Walks.idle rfl (fun _ => stepG_ret') ?_
  refine walks_goes rfl (fun W1 hr => ?_)
  replace hS := hS.rely hr
  clear hr
  refine goes_leave1 rfl rfl Tryd.func11 rfl ⟨_, Guar.refl _ _ _, ?_⟩
  walk_nrm
  refine walks_goes rfl (fun W1 hr => ?_)
  replace hS := hS.rely hr
  clear hr
  refine goes_oper_k rfl rfl (by k_ne) (fun K' hK => ?_)
  go_simp
  refine hK _ _ ⟨_, guar_none (fun e he => by have hm := mem_listed he; simp [go_sem, *] at hm), ?_⟩
  clear hK K'
  refine Walks.idle rfl (fun _ => stepG_region_end) ?_
  refine Walks.idle rfl (fun _ => stepG_seq) ?_
  refine Walks.idle rfl (fun _ => stepG_region) ?_
  simp only [List.size_toArray, List.length_cons, List.length_nil, Nat.reduceAdd, Nat.zero_add, List.range, List.range.loop]
  refine walks_goes rfl (fun W1 hr => ?_)
  replace hS := hS.rely hr
  clear hr
  refine goes_oper_k rfl rfl (by k_ne) (fun K' hK => ?_)
  go_simp
  refine hK _ _ ⟨_, guar_none (fun e he => by have hm := mem_listed he; simp [go_sem, *] at hm), ?_⟩
  clear hK K'
  refine walks_goes rfl (fun W1 hr => ?_)
  replace hS := hS.rely hr
  clear hr
  refine goes_oper_k rfl rfl (by k_ne) (fun K' hK => ?_)
  go_simp
  refine hK _ _ ⟨_, guar_none (fun e he => by have hm := mem_listed he; simp [go_sem, *] at hm), ?_⟩
  clear hK K'
  refine Walks.idle rfl (fun _ => stepG_region_end) ?_
  refine Walks.idle rfl (fun _ => stepG_cond (t := false) rfl) ?_
  simp only [Bool.false_eq_true, ↓reduceIte]
  refine Walks.idle rfl (fun _ => stepG_skip) ?_
  refine Walks.idle rfl (fun _ => stepG_seq) ?_
  refine Walks.idle rfl (fun _ => stepG_region) ?_
  simp only [List.size_toArray, List.length_cons, List.length_nil, Nat.reduceAdd, Nat.zero_add, List.range, List.range.loop]
  refine walks_goes rfl (fun W1 hr => ?_)
  replace hS := hS.rely hr
  clear hr
  obtain ⟨k0, g0⟩ := hS.cell (.head _)
  refine goes_oper_k rfl rfl (by k_ne) (fun K' hK => ?_)
  go_simp
  refine hK _ _ ⟨_, guar_reads (fun e he => ?_), ?_⟩
  · have hm := mem_listed he
    simp [go_sem, *] at hm
    subst hm
    exact ⟨_, rfl, .inl ((hS.own _).2 (.inr ⟨_, (.head _)⟩))⟩
  clear hK K' k0 g0
  refine walks_goes rfl (fun W1 hr => ?_)
  replace hS := hS.rely hr
  clear hr
  refine goes_oper_k rfl rfl (by k_ne) (fun K' hK => ?_)
  go_simp
  refine hK _ _ ⟨_, guar_none (fun e he => by have hm := mem_listed he; simp [go_sem, *] at hm), ?_⟩
  clear hK K'
  refine walks_goes rfl (fun W1 hr => ?_)
  replace hS := hS.rely hr
  clear hr
  refine goes_oper_k rfl rfl (by k_ne) (fun K' hK => ?_)
  go_simp
  refine hK _ _ ⟨_, guar_none (fun e he => by have hm := mem_listed he; simp [go_sem, *] at hm), ?_⟩
  clear hK K'
  refine walks_goes rfl (fun W1 hr => ?_)
  replace hS := hS.rely hr
  clear hr
  refine goes_oper_k rfl rfl (by k_ne) (fun K' hK => ?_)
  go_simp
  refine hK _ _ ⟨_, guar_none (fun e he => by have hm := mem_listed he; simp [go_sem, *] at hm), ?_⟩
  clear hK K'
  refine walks_goes rfl (fun W1 hr => ?_)
  replace hS := hS.rely hr
  clear hr
  refine goes_call rfl rfl (by k_ne) rfl Tryd.func13 (by kernel_rfl) rfl ⟨_, Guar.refl _ _ _, ?_⟩
  refine (h b0 b1 b2 b3 _ _ hS).to ?_
  simp [rtCall, rtOps, Tryd.f5, Tryd.f13, Act.eval]
end of
end Go.Proofs.YtmbfdhekplnoaaaDoor
