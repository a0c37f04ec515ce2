/-
  The law's own rows: what was taken, and what was due; apart from a court.
-/
import Derived.Test.YtamjnkjgdaojiaaDoorCourtAids
import Derived.Test.YtamjnkjgdaojiaaDoorRefDue
import Derived.Maps.AppendAt
namespace Go.Proofs.YtamjnkjgdaojiaaDoor
open Go.RowKit

def brow (L : List Br) : List Value := match L with
  | [] => []
  | t :: l => .int .i64 t.o :: .int .i64 t.b :: .int .i64 t.y :: .int .i64 t.m :: .int .i64 t.c :: .bool t.d :: brow l
theorem brow_len : ∀ L : List Br, (brow L).length = L.length * 6
  | [] => rfl
  | _ :: l => by simp [brow, brow_len l]; omega
theorem brow_append (t : Br) : ∀ L : List Br, brow (L ++ [t]) = brow L ++ [.int .i64 t.o, .int .i64 t.b, .int .i64 t.y, .int .i64 t.m, .int .i64 t.c, .bool t.d]
  | [] => rfl
  | _ :: l => by simp [brow, brow_append t l]
theorem brow_at : ∀ (L : List Br) (i : Nat) (t : Br), L[i]? = some t → (brow L)[i * 6]? = some (.int .i64 t.o) ∧ (brow L)[i * 6 + 1]? = some (.int .i64 t.b) ∧ (brow L)[i * 6 + 2]? = some (.int .i64 t.y) ∧ (brow L)[i * 6 + 3]? = some (.int .i64 t.m)
  | [], _, _, h => by simp at h
  | u :: l, 0, t, h => by
    have e : u = t := by simpa using h
    subst e
    exact ⟨rfl, rfl, rfl, rfl⟩
  | u :: l, i + 1, t, h => by
    have := brow_at l i t (by simpa using h)
    rw [show (i + 1) * 6 = i * 6 + 6 by omega]
    exact this
theorem crow_both : ∀ L M : List Cs, crow (L ++ M) = crow L ++ crow M
  | [], _ => rfl
  | _ :: l, M => by simp [crow, crow_both l M]
theorem Tryd.infoCase2 : (Tryd.prog.info? 60).map (fun i => (i.zero, i.size, i.bytes)) = some (some (.agg #[.int .i64 0, .int .i64 0, .int .i64 0, .int .i64 0]), 4, 32) := by kernel_rfl
theorem Tryd.infoBrought : (Tryd.prog.info? 55).map (fun i => (i.zero, i.size, i.bytes)) = some (some (.agg #[.int .i64 0, .int .i64 0, .int .i64 0, .int .i64 0, .int .i64 0, .bool false]), 6, 48) := by kernel_rfl
/-- what was taken, as a case -/
def Br.cs (t : Br) : Cs := (t.o, t.b, t.y, t.m)
/-- the two rows -/
structure Rows2 (B : Nat) (w : World) (F : Nat → Prop) (vt vd : Value) (T : List Br) (D : List Cs) : Prop where
  t : w.ownsRow B 55 6 vt T.length (brow T)
  d : w.ownsRow B 60 4 vd D.length (crow D)
  tF : ∀ q, vt.ownBlock = some q → ¬ F q
  dF : ∀ q, vd.ownBlock = some q → ¬ F q
  td : ∀ q, vt.ownBlock = some q → vd.ownBlock ≠ some q
theorem Rows2.moved {B : Nat} {w w' : World} {F F' : Nat → Prop} {vt vd : Value} {T : List Br} {D : List Cs} (h : Rows2 B w F vt vd T D) (hM : Moved F F' w w') : Rows2 B w' F' vt vd T D :=
  ⟨ownsRow_keptP h.t hM.kept h.tF, ownsRow_keptP h.d hM.kept h.dF, fun q e g => h.tF q e (hM.old q (h.t.lt q e).2 g), fun q e g => h.dF q e (hM.old q (h.d.lt q e).2 g), h.td⟩
theorem Rows2.nextB {B : Nat} {w w' : World} {F : Nat → Prop} {vt vd : Value} {T : List Br} {D : List Cs} (h : Rows2 B w F vt vd T D) (k : Below w.heap.size w w') : Rows2 B w' F vt vd T D :=
  ⟨ownsRow_keptP h.t (KeptP.of_below (F := fun _ => False) k) fun _ _ g => g, ownsRow_keptP h.d (KeptP.of_below (F := fun _ => False) k) fun _ _ g => g, h.tF, h.dF, h.td⟩
theorem Rows2.drewN {B : Nat} {w : World} {F : Nat → Prop} {vt vd : Value} {T : List Br} {D : List Cs} (h : Rows2 B w F vt vd T D) (n : Nat) : Rows2 B (w.drewN n) F vt vd T D := h.nextB (below_drewN (Below.refl _ _) n)
theorem grown_keptP {w w' : World} {v : Value} (h : w.grownBy w' v.ownBlock) : KeptP (fun k => v.ownBlock = some k) w w' := ⟨h.os, h.tape, h.output, h.size, fun k hk z => h.block k hk fun e => z e.symm⟩
/-- more that was due -/
theorem Rows2.addD {B : Nat} {w w' : World} {F : Nat → Prop} {vt vd vd' : Value} {T : List Br} {D D' : List Cs} (h : Rows2 B w F vt vd T D) (hF : ∀ k, F k → k < w.heap.size) (hg : w.grownBy w' vd.ownBlock) (own : w'.ownsRow B 60 4 vd' D'.length (crow D')) (ha : vd'.ownBlock = vd.ownBlock ∨ vd'.ownBlock = some w.heap.size) : Rows2 B w' F vt vd' T D' := by
  refine ⟨ownsRow_keptP h.t (grown_keptP hg) (fun q e g => h.td q e g), own, h.tF, fun q e g => ?_, fun q e g => ?_⟩
  · rcases ha with a | a
    · exact h.dF q (a ▸ e) g
    · rw [a] at e; cases e; exact absurd (hF _ g) (Nat.lt_irrefl _)
  · rcases ha with a | a
    · exact h.td q e (a ▸ g)
    · rw [a] at g; cases g; exact absurd (h.t.lt _ e).2 (Nat.lt_irrefl _)
/-- one more that was taken -/
theorem Rows2.addT {B : Nat} {w w' : World} {F : Nat → Prop} {vt vd vt' : Value} {T T' : List Br} {D : List Cs} (h : Rows2 B w F vt vd T D) (hF : ∀ k, F k → k < w.heap.size) (hg : w.grownBy w' vt.ownBlock) (own : w'.ownsRow B 55 6 vt' T'.length (brow T')) (ha : vt'.ownBlock = vt.ownBlock ∨ vt'.ownBlock = some w.heap.size) : Rows2 B w' F vt' vd T' D := by
  refine ⟨own, ownsRow_keptP h.d (grown_keptP hg) (fun q e g => h.td q g e), fun q e g => ?_, h.dF, fun q e g => ?_⟩
  · rcases ha with a | a
    · exact h.tF q (a ▸ e) g
    · rw [a] at e; cases e; exact absurd (hF _ g) (Nat.lt_irrefl _)
  · rcases ha with a | a
    · exact h.td q (a ▸ e) g
    · rw [a] at e; cases e; exact absurd (h.d.lt _ g).2 (Nat.lt_irrefl _)
theorem app_none (ty : TypeId) (w : World) {B : Nat} {v : Value} {D : List Cs} (c : Nat) (own : w.ownsRow B 60 4 v D.length (crow D)) : (Builtin.append_ #[56, 56] ty #[v, .slice none 0 c]).run Tryd.prog w = .ok v w := by
  unfold Builtin.append_
  rcases own.2 with ⟨rfl, h0⟩ | ⟨g, cap, cur, rfl, _, _, hcap, hmax, _⟩
  · simp [go_sem]
  · simp [go_sem, hcap]
/-- what is due is appended -/
theorem cases_append (ty : TypeId) (w : World) {B : Nat} {v d : Value} {D L : List Cs} {q : Nat} (own : w.ownsRow B 60 4 v D.length (crow D)) (hC : CasesAt w d q L) (hl : D.length + L.length ≤ 2000) (hB : B ≤ w.heap.size) :
    ∃ v' w', (Builtin.append_ #[56, 56] ty #[v, d]).run Tryd.prog w = .ok v' w' ∧ w'.ownsRow B 60 4 v' (D ++ L).length (crow (D ++ L)) ∧ w.grownBy w' v.ownBlock ∧ (v'.ownBlock = v.ownBlock ∨ v'.ownBlock = some w.heap.size) := by
  obtain ⟨i, hi, hz, hs, hb⟩ := info_parts Tryd.infoCase2
  obtain ⟨a, off, cap, rfl, h1, h2, h3, h4⟩ := hC
  cases a with
  | none =>
    have h0 : L.length = 0 := by
      rcases Nat.eq_zero_or_pos L.length with g | g
      · exact g
      · have := h3 g; cases this
    have e : L = [] := List.eq_nil_of_length_eq_zero h0
    rw [e, List.append_nil, List.length_nil]
    exact ⟨v, w, app_none ty w cap own, own, ⟨rfl, rfl, rfl, Nat.le_refl _, fun _ _ _ => rfl⟩, .inl rfl⟩
  | some a =>
    obtain ⟨v', w', r, o, g, _, x⟩ := run_append_own_at (P := Tryd.prog) w B 56 ty 60 i _ 4 32 Tryd.underlying56 hi hz hs hb rfl (by decide) v D.length (crow D) own a L.length cap (crow L) (crow_len L) (fun j u hu => by
      have hj := (List.getElem?_eq_some_iff.1 hu).1
      rw [crow_len] at hj
      have e := h3 (by omega)
      cases e
      have hadd : (⟨q, off, none⟩ : Addr).add j = ⟨q, off + j, none⟩ := by unfold Addr.add; split <;> simp_all
      rw [hadd]
      have ht : L[j / 4]? = some L[j / 4] := List.getElem?_eq_getElem (by omega)
      obtain ⟨a0, a1, a2, a3⟩ := h4 (j / 4) _ ht
      obtain ⟨b0, b1, b2, b3⟩ := crow_at L (j / 4) _ ht
      have hm : j = j / 4 * 4 ∨ j = j / 4 * 4 + 1 ∨ j = j / 4 * 4 + 2 ∨ j = j / 4 * 4 + 3 := by omega
      rcases hm with e | e | e | e <;> rw [e] at hu ⊢
      · rw [b0] at hu; cases hu; exact a0
      · rw [b1] at hu; cases hu; rw [← Nat.add_assoc]; exact a1
      · rw [b2] at hu; cases hu; rw [← Nat.add_assoc]; exact a2
      · rw [b3] at hu; cases hu; rw [← Nat.add_assoc]; exact a3) (crow_one L) (by simp only [maxLen]; omega) (by omega) hB
    refine ⟨v', w', r, ?_, g, x⟩
    rw [List.length_append, crow_both]
    exact o
end Go.Proofs.YtamjnkjgdaojiaaDoor
