/-
  What one operation does in the one world it does in the other that is alike: maps.
  What one operation does in the one world it does in the other that is alike: a map is gone through; entries in place; min, max; type assertions.
  What one operation does in the one world it does in the other that is alike: a method is looked up.
-/
import Derived.Test.YtmbfdhekplnoaaaDoorAlikeBinX
namespace Go.Proofs.YtmbfdhekplnoaaaDoor
open Go

section maps
variable {C : Ctx} {ρ : Brel}
def ML (Fn : FnR) (ρ : Brel) : List MapEntry → List MapEntry → Prop
  | [], [] => True
  | x :: xs, y :: ys => MR Fn ρ x y ∧ ML Fn ρ xs ys
  | _, _ => False
theorem ML.mono {Fn : FnR} {ρ ρ' : Brel} (e : Ext ρ ρ') : ∀ {xs ys : List MapEntry}, ML Fn ρ xs ys → ML Fn ρ' xs ys
  | [], [], _ => trivial
  | _ :: _, _ :: _, h => ⟨h.1.mono e, ML.mono e h.2⟩
  | [], _ :: _, h => h.elim
  | _ :: _, [], h => h.elim
theorem ML.of {Fn : FnR} : ∀ (xs ys : List MapEntry), xs.length = ys.length → (∀ (i : Nat) (x y : MapEntry), xs[i]? = some x → ys[i]? = some y → MR Fn ρ x y) → ML Fn ρ xs ys
  | [], [], _, _ => trivial
  | x :: xs, y :: ys, h, k => ⟨k 0 x y rfl rfl, ML.of xs ys (by simpa using h) fun i a b ha hb => k (i + 1) a b (by simpa using ha) (by simpa using hb)⟩
  | [], _ :: _, h, _ => by simp at h
  | _ :: _, [], h, _ => by simp at h
theorem MRs.list {Fn : FnR} {xs ys : Array MapEntry} (h : MRs Fn ρ xs ys) : ML Fn ρ xs.toList ys.toList :=
  ML.of _ _ (by simpa using h.1) fun i x y hx hy => h.2 i x y (by simpa using hx) (by simpa using hy)
theorem ML.len {Fn : FnR} : ∀ {xs ys : List MapEntry}, ML Fn ρ xs ys → xs.length = ys.length
  | [], [], _ => rfl
  | _ :: _, _ :: _, h => by simp [ML.len h.2]
  | [], _ :: _, h => h.elim
  | _ :: _, [], h => h.elim
theorem ML.at {Fn : FnR} : ∀ {xs ys : List MapEntry}, ML Fn ρ xs ys → ∀ (i : Nat) (x y : MapEntry), xs[i]? = some x → ys[i]? = some y → MR Fn ρ x y
  | [], [], _, i, x, y, hx, _ => by simp at hx
  | a :: xs, b :: ys, h, 0, x, y, hx, hy => by cases hx; cases hy; exact h.1
  | a :: xs, b :: ys, h, i + 1, x, y, hx, hy => ML.at h.2 i x y (by simpa using hx) (by simpa using hy)
  | [], _ :: _, h, _, _, _, _, _ => h.elim
  | _ :: _, [], h, _, _, _, _, _ => h.elim
theorem ML.arr {Fn : FnR} {xs ys : Array MapEntry} (h : ML Fn ρ xs.toList ys.toList) : MRs Fn ρ xs ys :=
  ⟨by simpa using h.len, fun i x y hx hy => h.at i x y (by simpa using hx) (by simpa using hy)⟩
theorem MRs.nil {Fn : FnR} : MRs Fn ρ #[] #[] := ⟨rfl, fun i x y h => by simp at h⟩
theorem MRs.push {Fn : FnR} {xs ys : Array MapEntry} {x y : MapEntry} (h : MRs Fn ρ xs ys) (hv : MR Fn ρ x y) : MRs Fn ρ (xs.push x) (ys.push y) := by
  refine ⟨by simp [h.1], fun i a b ha hb => ?_⟩
  rw [Array.getElem?_push] at ha hb
  rw [← h.1] at hb
  split at ha
  · rename_i e
    rw [if_pos e] at hb
    cases ha; cases hb; exact hv
  · rename_i e
    rw [if_neg e] at hb
    exact h.2 i a b ha hb
theorem MRs.modify {Fn : FnR} {xs ys : Array MapEntry} (h : MRs Fn ρ xs ys) (i : Nat) (f g : MapEntry → MapEntry) (hfg : ∀ x y, MR Fn ρ x y → MR Fn ρ (f x) (g y)) : MRs Fn ρ (xs.modify i f) (ys.modify i g) := by
  refine ⟨by simp [h.1], fun j a b ha hb => ?_⟩
  rw [Array.getElem?_modify] at ha hb
  by_cases hi : i = j
  · rw [if_pos hi] at ha hb
    cases hx : xs[j]? with
    | none => rw [hx] at ha; cases ha
    | some x =>
      cases hy : ys[j]? with
      | none => rw [hy] at hb; cases hb
      | some y =>
        rw [hx] at ha; rw [hy] at hb
        cases ha; cases hb
        exact hfg x y (h.2 j x y hx hy)
  · rw [if_neg hi] at ha hb
    exact h.2 j a b ha hb
theorem MRs.erase {Fn : FnR} {xs ys : Array MapEntry} (h : MRs Fn ρ xs ys) (i : Nat) : MRs Fn ρ (xs.eraseIdxIfInBounds i) (ys.eraseIdxIfInBounds i) := by
  have key : ∀ (l m : List MapEntry) (i : Nat), ML Fn ρ l m → ML Fn ρ (l.eraseIdx i) (m.eraseIdx i) := by
    intro l
    induction l with
    | nil => intro m i h; cases m <;> first | exact h.elim | exact trivial
    | cons a l ih =>
      intro m i h
      cases m with
      | nil => exact h.elim
      | cons b m =>
        cases i with
        | zero => exact h.2
        | succ i => exact ⟨h.1, ih m i h.2⟩
  refine ML.arr ?_
  have e : ∀ (z : Array MapEntry), (z.eraseIdxIfInBounds i).toList = z.toList.eraseIdx i := fun z => by
    unfold Array.eraseIdxIfInBounds
    split
    · simp
    · rename_i q
      rw [List.eraseIdx_of_length_le]
      simpa using Nat.le_of_not_lt q
  rw [e, e]
  exact key _ _ i h.list
theorem MRs.empty_eq {Fn : FnR} {xs ys : Array MapEntry} (h : MRs Fn ρ xs ys) : ys.isEmpty = xs.isEmpty := by
  unfold Array.isEmpty; rw [h.1]
theorem Sim.checkKey (b : Bool) (d : Nat) : ∀ {ρ : Brel} (t : TypeId) {x x' : Value}, VR C.Fn ρ x x' → Sim C (fun _ _ _ => True) ρ (Instr.checkKey b d t x) (Instr.checkKey b d t x') := by
  induction d with
  | zero => intro ρ t x x' h; exact Sim.dead (Dead.unsupported _)
  | succ d ih =>
    intro ρ t x x' h
    unfold Instr.checkKey
    refine Sim.bindK (k_underlying t) fun de hd => ?_
    have fin : ∀ {ρ : Brel}, Sim C (fun _ _ _ => True) ρ (Pure.pure () : Sem Unit) (Pure.pure () : Sem Unit) := Sim.pure trivial
    cases de with
    | interface ms =>
      cases h with
      | nilIface => exact fin
      | iface tx hx =>
        dsimp only
        refine Sim.bindK (k_typeInfo tx) fun i _ => Sim.ite (fun _ => ?_) fun _ => ih tx hx
        refine Sim.ite (fun _ => Sim.dead (Dead.bind (Dead.runtimePanic _))) fun _ => Sim.dead ?_
        refine Dead.then (fine_of_konst ?_) fun _ => Dead.bind (Dead.runtimePanic _)
        refine (k_typeInfo tx).bind fun j _ => ?_
        dsimp only
        split
        · exact Konst.unsupported _
        · exact Konst.pure _
      | _ => exact Sim.dead (Dead.stuck _)
    | array n el =>
      cases h with
      | agg h1 h2 =>
        dsimp only
        rw [Std.Legacy.Range.forIn_eq_forIn_range', Std.Legacy.Range.forIn_eq_forIn_range']
        refine Sim.bind (A := fun _ a b => b = a) (Sim.forL _ _ _ _ fun {ρ'} e i hi s => ?_) fun _ _ _ _ _ => fin
        exact Sim.bindK (k_sizeOf el) fun sz _ => Sim.bind (Sim.part el (VRs.mono ⟨h1, h2⟩ e) (i * sz)) fun ρ2 u u' e2 hu => Sim.bind (ih el hu) fun _ _ _ _ _ => Sim.pure rfl
      | _ => exact Sim.dead (Dead.stuck _)
    | struct fs =>
      cases h with
      | agg h1 h2 =>
        dsimp only
        rw [← Array.forIn_toList, ← Array.forIn_toList]
        refine Sim.bind (A := fun _ a b => b = a) (Sim.forL _ _ _ _ fun {ρ'} e f hf s => ?_) fun _ _ _ _ _ => fin
        exact Sim.ite (fun _ => Sim.bind (Sim.part f.type (VRs.mono ⟨h1, h2⟩ e) f.offset) fun ρ2 u u' e2 hu => Sim.bind (ih f.type hu) fun _ _ _ _ _ => Sim.pure rfl) fun _ => Sim.pure rfl
      | _ => exact Sim.dead (Dead.stuck _)
    | _ => exact fin
def FO (Fn : FnR) (ρ : Brel) : Option (Nat × Value) → Option (Nat × Value) → Prop
  | none, none => True
  | some a, some b => b.1 = a.1 ∧ VR Fn ρ a.2 b.2
  | _, _ => False
theorem sameNow_eq {Fn : FnR} (t : TypeDesc) {x x' y y' : Value} (h : VR Fn ρ x x') (k : VR Fn ρ y y') (nx : x ≠ undef) (ny : y ≠ undef) : Instr.sameNow t x' y' = Instr.sameNow t x y := by
  cases h with
  | junk _ => exact absurd rfl nx
  | _ =>
    cases k with
    | junk _ => exact absurd rfl ny
    | _ => cases t <;> rfl
def JP (t : TypeDesc) (k : Value) : List MapEntry → Prop
  | [] => False
  | x :: xs => (k = undef ∨ x.key = undef) ∨ (Instr.sameNow t k x.key = some false ∧ JP t k xs)
theorem sameNow_l (t : TypeDesc) (y : Value) : Instr.sameNow t undef y = none := by
  cases t <;> rfl
theorem sameNow_r (t : TypeDesc) (x : Value) : Instr.sameNow t x undef = none := by
  cases t <;> cases x <;> rfl
theorem Dead.behind {α β : Type} {s : Sem α} {k : α → Sem β} {x : α} (h : Is C s x) (hk : Dead C (k x)) : Dead C (s >>= k) := by
  intro w es
  obtain ⟨g, w1, es1, e, hb⟩ := hk w es
  refine ⟨g, w1, es1, ?_, hb⟩
  show (s.bind k).runT C.P w es = _
  rw [Sem.runT_bind', h w es]
  exact e
theorem is_unequal {t : TypeId} {d : TypeDesc} (hd : Is C (underlying t) d) {x y : Value} (h : Instr.sameNow d x y = some false) (n : Nat) : Is C (Op.equalIn (n + 1) t x y) false := by
  unfold Op.equalIn
  refine Is.bind hd ?_
  unfold Instr.sameNow at h
  split at h
  · split at h
    · rename_i e
      dsimp only
      rw [if_pos e, Option.some.inj h]
      exact Is.pure _
    · cases h
  · dsimp only
    rw [Option.some.inj h]
    exact Is.pure _
  · dsimp only
    rw [Option.some.inj h]
    exact Is.pure _
  · cases h
theorem dead_asking {t : TypeId} {d : TypeDesc} (hd : Is C (underlying t) d) (k : Value) : ∀ (xs : List MapEntry) (i : Nat), JP d k xs → Dead C (Instr.findAsking t k xs i)
  | [], _, h => h.elim
  | x :: xs, i, h => by
    unfold Instr.findAsking
    rcases h with (rfl | e) | ⟨h1, h2⟩
    · exact Dead.bind (dead_equalIn_l _ t _)
    · rw [e]; exact Dead.bind (dead_equalIn_r _ t _)
    · refine Dead.behind (x := false) (is_unequal hd h1 9999) ?_
      exact dead_asking hd k xs (i + 1) h2
theorem findNow_vr {Fn : FnR} (t : TypeDesc) {k k' : Value} (hk : VR Fn ρ k k') : ∀ (xs ys : List MapEntry) (i : Nat), ML Fn ρ xs ys →
    (Instr.findNow t k xs i = none ∧ Instr.findNow t k' ys i = none) ∨ (∃ a b, Instr.findNow t k xs i = some a ∧ Instr.findNow t k' ys i = some b ∧ FO Fn ρ a b) ∨ (Instr.findNow t k xs i = none ∧ JP t k xs)
  | [], [], i, _ => .inr (.inl ⟨none, none, rfl, rfl, trivial⟩)
  | x :: xs, y :: ys, i, h => by
    unfold Instr.findNow
    by_cases nk : k = undef
    · subst nk
      rw [sameNow_l]
      exact .inr (.inr ⟨rfl, .inl (.inl rfl)⟩)
    by_cases nx : x.key = undef
    · rw [nx, sameNow_r]
      exact .inr (.inr ⟨rfl, .inl (.inr nx)⟩)
    rw [sameNow_eq t hk h.1.1 nk nx]
    cases hs : Instr.sameNow t k x.key with
    | none => exact .inl ⟨rfl, rfl⟩
    | some b =>
      cases b with
      | true => exact .inr (.inl ⟨_, _, rfl, rfl, rfl, h.1.2.1⟩)
      | false =>
        rcases findNow_vr t hk xs ys (i + 1) h.2 with q | q | q
        · exact .inl q
        · exact .inr (.inl q)
        · exact .inr (.inr ⟨q.1, .inr ⟨hs, q.2⟩⟩)
  | [], _ :: _, _, h => h.elim
  | _ :: _, [], _, h => h.elim
theorem Sim.findAsking (t : TypeId) : ∀ (xs ys : List MapEntry) {ρ : Brel} {k k' : Value} (i : Nat), VR C.Fn ρ k k' → ML C.Fn ρ xs ys → Sim C (fun ρ => FO C.Fn ρ) ρ (Instr.findAsking t k xs i) (Instr.findAsking t k' ys i)
  | [], [], ρ, k, k', i, hk, h => Sim.pure trivial
  | x :: xs, y :: ys, ρ, k, k', i, hk, h => by
    unfold Instr.findAsking
    refine Sim.bind (Sim.equal t hk h.1.1) fun ρ1 a b e1 hab => ?_
    subst hab
    exact Sim.ite (fun _ => Sim.pure ⟨rfl, h.1.2.1.mono e1⟩) fun _ => Sim.findAsking t xs ys (i + 1) (hk.mono e1) (h.2.mono e1)
  | [], _ :: _, _, _, _, _, _, h => h.elim
  | _ :: _, [], _, _, _, _, _, h => h.elim
theorem Sim.findKey (t : TypeId) {xs ys : List MapEntry} {k k' : Value} (hk : VR C.Fn ρ k k') (h : ML C.Fn ρ xs ys) : Sim C (fun ρ => FO C.Fn ρ) ρ (Instr.findKey t k xs) (Instr.findKey t k' ys) := by
  refine Sim.bindK (k_underlying t) fun d hd => ?_
  rcases findNow_vr d hk xs ys 0 h with ⟨e1, e2⟩ | ⟨a, b, e1, e2, hab⟩ | ⟨e1, e2⟩
  · rw [e1, e2]; exact Sim.findAsking t xs ys 0 hk h
  · rw [e1, e2]; exact Sim.pure hab
  · rw [e1]; exact Sim.dead (dead_asking hd k xs 0 e2)
theorem Sim.lookup (hZ : Zeros C.P) {t : TypeId} (hm : ∀ k e, C.P.underlying t = some (.map k e) → e < C.P.types.size) {x x' y y' : Value} (h : VR C.Fn ρ x x') (k : VR C.Fn ρ y y') (ok : Bool) : Sim C (fun ρ => VR C.Fn ρ) ρ (Instr.lookup t x y ok) (Instr.lookup t x' y' ok) := by
  refine Sim.bindK (k_underlying t) fun d hd => ?_
  have hu := is_underlying hd
  cases d with
  | map kt el =>
    dsimp only
    have hel := hm kt el hu
    have out : ∀ {ρ5 : Brel} {p q : Value} (b : Bool), VR C.Fn ρ5 p q → VR C.Fn ρ5 (if ok = true then Value.tuple #[p, .bool b] else p) (if ok = true then Value.tuple #[q, .bool b] else q) := by
      intro ρ5 p q b hpq
      split
      · exact VR.tup (VRs.two hpq (.bool b))
      · exact hpq
    cases h with
    | nilMap =>
      have e1 := Ext.refl ρ
      have hm2 : MRs C.Fn ρ #[] #[] := MRs.nil
      dsimp only
      refine Sim.bind (A := fun ρ a b => MRs C.Fn ρ a b) (Sim.pure hm2) fun ρ2 a b e2 hab => ?_
      rw [hab.empty_eq]
      refine Sim.bind (Sim.checkKey _ _ kt (k.mono (e1.trans e2))) fun ρ3 _ _ e3 _ => Sim.bind (Sim.findKey kt (k.mono ((e1.trans e2).trans e3)) (hab.list.mono e3)) fun ρ4 u v e4 huv => ?_
      cases u with
      | none =>
        cases v with
        | some _ => exact huv.elim
        | none =>
          exact Sim.bindK (k_zeroValue el) fun z hz => Sim.bind (A := fun ρ p q => VR C.Fn ρ p.1 q.1 ∧ p.2 = false ∧ q.2 = false) (Sim.pure ⟨zero_vr hZ hel hz, rfl, rfl⟩) fun _ p q _ hpq => by
            obtain ⟨p1, p2⟩ := p; obtain ⟨q1, q2⟩ := q
            obtain ⟨g1, g2, g3⟩ := hpq
            cases g2; cases g3
            exact Sim.pure (out false g1)
      | some u =>
        cases v with
        | none => exact huv.elim
        | some v =>
          exact Sim.bind (A := fun ρ p q => VR C.Fn ρ p.1 q.1 ∧ p.2 = true ∧ q.2 = true) (Sim.pure ⟨huv.2, rfl, rfl⟩) fun _ p q _ hpq => by
            obtain ⟨p1, p2⟩ := p; obtain ⟨q1, q2⟩ := q
            obtain ⟨g1, g2, g3⟩ := hpq
            cases g2; cases g3
            exact Sim.pure (out true g1)
    | mp hr =>
      dsimp only
      refine Sim.bind (Sim.getObj hr) fun ρ1 o o' e1 ho => ?_
      cases ho with
      | map hm2 n =>
        dsimp only
        refine Sim.bind (A := fun ρ a b => MRs C.Fn ρ a b) (Sim.pure hm2) fun ρ2 a b e2 hab => ?_
        rw [hab.empty_eq]
        refine Sim.bind (Sim.checkKey _ _ kt (k.mono (e1.trans e2))) fun ρ3 _ _ e3 _ => Sim.bind (Sim.findKey kt (k.mono ((e1.trans e2).trans e3)) (hab.list.mono e3)) fun ρ4 u v e4 huv => ?_
        cases u with
        | none =>
          cases v with
          | some _ => exact huv.elim
          | none =>
            exact Sim.bindK (k_zeroValue el) fun z hz => Sim.bind (A := fun ρ p q => VR C.Fn ρ p.1 q.1 ∧ p.2 = false ∧ q.2 = false) (Sim.pure ⟨zero_vr hZ hel hz, rfl, rfl⟩) fun _ p q _ hpq => by
              obtain ⟨p1, p2⟩ := p; obtain ⟨q1, q2⟩ := q
              obtain ⟨g1, g2, g3⟩ := hpq
              cases g2; cases g3
              exact Sim.pure (out false g1)
        | some u =>
          cases v with
          | none => exact huv.elim
          | some v =>
            exact Sim.bind (A := fun ρ p q => VR C.Fn ρ p.1 q.1 ∧ p.2 = true ∧ q.2 = true) (Sim.pure ⟨huv.2, rfl, rfl⟩) fun _ p q _ hpq => by
              obtain ⟨p1, p2⟩ := p; obtain ⟨q1, q2⟩ := q
              obtain ⟨g1, g2, g3⟩ := hpq
              cases g2; cases g3
              exact Sim.pure (out true g1)
      | _ => exact Sim.dead (Dead.bind (Dead.stuck _))
    | _ => exact Sim.dead (Dead.bind (Dead.stuck _))
  | _ => exact Sim.dead (Dead.stuck _)
/-! keys that stay: of a type whose values are one cell each -/
def fl : Value → Bool
  | .int _ _ => true
  | .string _ => true
  | .bool _ => true
  | .pointer _ => true
  | _ => false
def basicB : TypeDesc → Bool
  | .int _ => true
  | .string => true
  | .bool => true
  | _ => false
def KeyOk (P : Program) (t : TypeId) : Prop := ∀ k e, P.underlying t = some (.map k e) → ∃ d, P.underlying k = some d ∧ basicB d = true
theorem dead_unflat {t : TypeId} {d : TypeDesc} (hd : Is C (underlying t) d) (hb : basicB d = true) {x y : Value} (h : fl x = false ∨ fl y = false) (n : Nat) : Dead C (Op.equalIn n t x y) := by
  cases n with
  | zero => exact Dead.unsupported _
  | succ n =>
    unfold Op.equalIn
    refine Dead.behind hd ?_
    cases d <;> first | (cases hb; done) | skip
    all_goals
      rcases h with h | h
      · cases x <;> first | (cases h; done) | (cases y <;> first | exact Dead.stuck _ | exact Dead.unsupported _)
      · cases y <;> first | (cases h; done) | (cases x <;> first | exact Dead.stuck _ | exact Dead.unsupported _ | (rename_i a; cases a <;> first | exact Dead.unsupported .addressObserved | exact Dead.stuck _))
theorem sameNow_flat {d : TypeDesc} {x y : Value} {b : Bool} (h : Instr.sameNow d x y = some b) : fl x = true ∧ fl y = true := by
  unfold Instr.sameNow at h
  split at h <;> first | exact ⟨rfl, rfl⟩ | cases h
theorem findNow_flat {d : TypeDesc} {k : Value} : ∀ (xs : List MapEntry) (i j : Nat) (v : Value), Instr.findNow d k xs i = some (some (j, v)) → fl k = true ∧ i ≤ j ∧ ∃ x, xs[j - i]? = some x ∧ fl x.key = true
  | [], i, j, v, h => by cases h
  | x :: xs, i, j, v, h => by
    unfold Instr.findNow at h
    split at h
    · rename_i e
      cases h
      exact ⟨(sameNow_flat e).1, Nat.le_refl _, x, by simp, (sameNow_flat e).2⟩
    · obtain ⟨h1, h2, z, h3, h4⟩ := findNow_flat xs (i + 1) j v h
      refine ⟨h1, by omega, z, ?_, h4⟩
      rw [show j - i = (j - (i + 1)) + 1 by omega]
      simpa using h3
    · cases h
theorem Sim.findAskingF {t : TypeId} {d : TypeDesc} (hd : Is C (underlying t) d) (hb : basicB d = true) : ∀ (xs ys : List MapEntry) {ρ : Brel} {k k' : Value} (i : Nat), VR C.Fn ρ k k' → ML C.Fn ρ xs ys →
    Sim C (fun ρ a b => FO C.Fn ρ a b ∧ ∀ j v, a = some (j, v) → fl k = true ∧ i ≤ j ∧ ∃ x, xs[j - i]? = some x ∧ fl x.key = true) ρ (Instr.findAsking t k xs i) (Instr.findAsking t k' ys i)
  | [], [], ρ, k, k', i, hk, h => Sim.pure ⟨trivial, fun j v e => by cases e⟩
  | x :: xs, y :: ys, ρ, k, k', i, hk, h => by
    unfold Instr.findAsking
    cases fk : fl k with
    | false => exact Sim.dead (Dead.bind (dead_unflat hd hb (.inl fk) _))
    | true =>
      cases fx : fl x.key with
      | false => exact Sim.dead (Dead.bind (dead_unflat hd hb (.inr fx) _))
      | true =>
        refine Sim.bind (Sim.equal t hk h.1.1) fun ρ1 a b e1 hab => ?_
        subst hab
        refine Sim.ite (fun _ => Sim.pure ⟨⟨rfl, h.1.2.1.mono e1⟩, fun j v e => ?_⟩) fun _ => (Sim.findAskingF hd hb xs ys (i + 1) (hk.mono e1) (h.2.mono e1)).mono fun ρ2 a b _ q => ⟨q.1, fun j v e => ?_⟩
        · cases e
          exact ⟨rfl, Nat.le_refl _, x, by simp, fx⟩
        · obtain ⟨_, h2, z, h3, h4⟩ := q.2 j v e
          refine ⟨rfl, by omega, z, ?_, h4⟩
          rw [show j - i = (j - (i + 1)) + 1 by omega]
          simpa using h3
  | [], _ :: _, _, _, _, _, _, h => h.elim
  | _ :: _, [], _, _, _, _, _, h => h.elim
theorem Sim.findKeyF {t : TypeId} (hK : ∃ d, C.P.underlying t = some d ∧ basicB d = true) {xs ys : List MapEntry} {k k' : Value} (hk : VR C.Fn ρ k k') (h : ML C.Fn ρ xs ys) :
    Sim C (fun ρ a b => FO C.Fn ρ a b ∧ ∀ j v, a = some (j, v) → fl k = true ∧ ∃ x, xs[j]? = some x ∧ fl x.key = true) ρ (Instr.findKey t k xs) (Instr.findKey t k' ys) := by
  refine Sim.bindK (k_underlying t) fun d hd => ?_
  obtain ⟨d', e', hb⟩ := hK
  obtain rfl : d' = d := Option.some.inj (e'.symm.trans (is_underlying hd))
  rcases findNow_vr d' hk xs ys 0 h with ⟨e1, e2⟩ | ⟨a, b, e1, e2, hab⟩ | ⟨e1, e2⟩
  · rw [e1, e2]; exact (Sim.findAskingF hd hb xs ys 0 hk h).mono fun ρ2 a b _ q => ⟨q.1, fun j v e => by obtain ⟨h1, _, x, h2, h3⟩ := q.2 j v e; exact ⟨h1, x, h2, h3⟩⟩
  · rw [e1, e2]; exact Sim.pure ⟨hab, fun j v e => by subst e; obtain ⟨h1, _, x, h2, h3⟩ := findNow_flat xs 0 j v e1; exact ⟨h1, x, h2, h3⟩⟩
  · rw [e1]; exact Sim.dead (dead_asking hd k xs 0 e2)
theorem sameBits_eq {w W : World} (hw : WR C ρ w W) (d : Nat) {x x' y y' : Value} (h : VR C.Fn ρ x x') (k : VR C.Fn ρ y y') (fx : fl x = true) (fy : fl y = true) : Instr.sameBits d x' y' = Instr.sameBits d x y := by
  cases h with
  | @ptr a a' ha hna =>
    cases k with
    | @ptr b b' hb hnb =>
      have e : (some a' == some b') = (some a == some b) := by
        rw [Bool.eq_iff_iff, beq_iff_eq, beq_iff_eq, Option.some.injEq, Option.some.injEq]
        exact AR.eq hw ha hb
      cases d <;> exact e
    | _ => first | (cases fy; done) | (cases d <;> rfl)
  | _ => first | (cases fx; done) | (cases k <;> first | (cases fy; done) | (cases d <;> rfl))
theorem Sim.keyThatStays {x x' y y' : Value} (h : VR C.Fn ρ x x') (k : VR C.Fn ρ y y') (fx : fl x = true) (fy : fl y = true) : Sim C (fun ρ => VR C.Fn ρ) ρ (Instr.keyThatStays x y) (Instr.keyThatStays x' y') := by
  refine Sim.with fun w W hw => ?_
  unfold Instr.keyThatStays
  rw [sameBits_eq hw 10000 h k fx fy]
  refine Sim.ite (fun _ => Sim.pure k) fun _ => Sim.bind (Sim.choose _) fun ρ1 a b e hab => ?_
  subst hab
  refine Sim.pure ?_
  split
  · exact k.mono e
  · exact h.mono e
theorem key_flat {es : Array MapEntry} {i : Nat} {x : MapEntry} {k : Value} (h : es.toList[i]? = some x) (hx : fl x.key = true) : fl (((es[i]?).map (·.key)).getD k) = true := by
  rw [show es[i]? = some x by simpa using h]
  exact hx
theorem clean_map (es : Array MapEntry) (n : Nat) : Obj.clean (.map es n) := fun _ _ _ q => by cases q
theorem key_at {xs ys : Array MapEntry} (h : MRs C.Fn ρ xs ys) (i : Nat) {k k' : Value} (hk : VR C.Fn ρ k k') : VR C.Fn ρ (((xs[i]?).map (·.key)).getD k) (((ys[i]?).map (·.key)).getD k') := by
  cases hx : xs[i]? with
  | none =>
    have : ys[i]? = none := by rw [Array.getElem?_eq_none_iff] at hx ⊢; rw [← h.1]; exact hx
    rw [this]; exact hk
  | some x =>
    have hi : i < ys.size := by rw [← h.1]; exact (Array.getElem?_eq_some_iff.1 hx).1
    have hy : ys[i]? = some ys[i] := by simp [hi]
    rw [hy]
    exact (h.2 i x _ hx hy).1
theorem Sim.mapUpdate {t : TypeId} (hK : KeyOk C.P t) {m m' k k' v v' : Value} (hm : VR C.Fn ρ m m') (hk : VR C.Fn ρ k k') (hv : VR C.Fn ρ v v') : Sim C (fun _ _ _ => True) ρ (Instr.mapUpdate t m k v) (Instr.mapUpdate t m' k' v') := by
  refine Sim.bindK (k_underlying t) fun d hd => ?_
  have hu := is_underlying hd
  cases d with
  | map kt el =>
    dsimp only
    have hkey := hK kt el hu
    cases hm with
    | nilMap => exact Sim.dead (Dead.runtimePanic _)
    | mp hr =>
      dsimp only
      refine Sim.bind (Sim.getObj hr) fun ρ1 o o' e1 ho => ?_
      cases ho with
      | map hes n =>
        dsimp only
        refine Sim.bind (Sim.checkKey _ _ kt (hk.mono e1)) fun ρ2 _ _ e2 _ => Sim.bind (Sim.findKeyF hkey (hk.mono (e1.trans e2)) (hes.list.mono e2)) fun ρ3 u u' e3 hu1 => ?_
        have e := (e1.trans e2).trans e3
        have hes3 := hes.mono (e2.trans e3)
        cases u with
        | none =>
          cases u' with
          | some _ => exact hu1.1.elim
          | none =>
            have hp : MR C.Fn ρ3 ⟨k, v, n⟩ ⟨k', v', n⟩ := ⟨hk.mono e, hv.mono e, rfl⟩
            exact Sim.setObj (e _ _ hr) (.map (hes3.push hp) _) (clean_map _ _)
        | some u =>
          cases u' with
          | none => exact hu1.1.elim
          | some u' =>
            obtain ⟨i, a⟩ := u
            obtain ⟨i', a'⟩ := u'
            obtain ⟨rfl, _⟩ : i' = i ∧ _ := hu1.1
            obtain ⟨fk, x, hx, fx⟩ := hu1.2 i' a rfl
            dsimp only
            refine Sim.bind (Sim.keyThatStays (key_at hes3 _ (hk.mono e)) (hk.mono e) (key_flat hx fx) fk) fun ρ4 p q e4 hpq => ?_
            have hmod := (hes3.mono e4).modify i' (fun e => { key := p, val := v, born := e.born }) (fun e => { key := q, val := v', born := e.born }) fun x y hxy => ⟨hpq, hv.mono (e.trans e4), hxy.2.2⟩
            exact Sim.setObj ((e.trans e4) _ _ hr) (.map hmod _) (clean_map _ _)
      | _ => exact Sim.dead (Dead.stuck _)
    | _ => exact Sim.dead (Dead.stuck _)
  | _ => exact Sim.dead (Dead.stuck _)
theorem Sim.makeMap (t : TypeId) {r r' : Option Value} (hr : OV C.Fn ρ r r') : Sim C (fun ρ => VR C.Fn ρ) ρ (Instr.makeMap t r) (Instr.makeMap t r') := by
  have fin : ∀ {ρ : Brel}, Sim C (fun ρ => VR C.Fn ρ) ρ (do Pure.pure (.map (some (← Go.newObj (.map #[] 0))))) (do Pure.pure (.map (some (← Go.newObj (.map #[] 0))))) :=
    Sim.bind (Sim.newObj (.map MRs.nil 0) (clean_map _ _)) fun _ _ _ _ h => Sim.pure (.mp h.1)
  cases r with
  | none => cases r' with
    | none => exact fin
    | some _ => exact hr.elim
  | some x => cases r' with
    | none => exact hr.elim
    | some y =>
      refine Sim.bindK (k_underlying t) fun d _ => ?_
      cases d <;> first | exact Sim.dead (Dead.stuck _) | exact Sim.bind (Sim.asInt hr) fun _ _ _ _ _ => fin
theorem Sim.delete (ts : Array TypeId) (t : TypeId) {xs ys : Array Value} (h : VRs C.Fn ρ xs ys) : Sim C (fun ρ => VR C.Fn ρ) ρ (Builtin.delete_ ts t xs) (Builtin.delete_ ts t ys) := by
  unfold Builtin.delete_
  have h0 := OV.at h 0
  have h1 := OV.at h 1
  cases ts[0]? with
  | none => exact Sim.dead (Dead.stuck _)
  | some mt =>
    cases hx : xs[0]? with
    | none => exact Sim.dead (Dead.stuck _)
    | some x =>
      cases hx1 : xs[1]? with
      | none => exact Sim.dead (Dead.stuck _)
      | some x1 =>
        rw [hx] at h0
        rw [hx1] at h1
        cases hy : ys[0]? with
        | none => rw [hy] at h0; exact h0.elim
        | some y =>
          cases hy1 : ys[1]? with
          | none => rw [hy1] at h1; exact h1.elim
          | some y1 =>
            rw [hy] at h0
            rw [hy1] at h1
            have h0 : VR C.Fn ρ x y := h0
            have h1 : VR C.Fn ρ x1 y1 := h1
            dsimp only
            refine Sim.bindK (k_underlying mt) fun d _ => ?_
            cases d with
            | map kt el =>
              dsimp only
              cases h0 with
              | nilMap => exact Sim.bind (Sim.checkKey _ _ kt h1) fun _ _ _ _ _ => Sim.pure (VR.tup VRs.nil)
              | mp hr =>
                dsimp only
                refine Sim.bind (Sim.getObj hr) fun ρ1 o o' e1 ho => ?_
                cases ho with
                | map hes n =>
                  dsimp only
                  rw [hes.empty_eq]
                  refine Sim.bind (Sim.checkKey _ _ kt (h1.mono e1)) fun ρ2 _ _ e2 _ => Sim.bind (Sim.findKey kt (h1.mono (e1.trans e2)) (hes.list.mono e2)) fun ρ3 u u' e3 hu => ?_
                  have e := (e1.trans e2).trans e3
                  have hes3 := hes.mono (e2.trans e3)
                  cases u with
                  | none =>
                    cases u' with
                    | some _ => exact hu.elim
                    | none => exact Sim.bind (Sim.setObj (e _ _ hr) (.map hes3 n) (clean_map _ _)) fun _ _ _ _ _ => Sim.pure (VR.tup VRs.nil)
                  | some u =>
                    cases u' with
                    | none => exact hu.elim
                    | some u' =>
                      obtain ⟨i, a⟩ := u
                      obtain ⟨i', a'⟩ := u'
                      obtain ⟨rfl, _⟩ : i' = i ∧ _ := hu
                      exact Sim.bind (Sim.setObj (e _ _ hr) (.map (hes3.erase _) n) (clean_map _ _)) fun _ _ _ _ _ => Sim.pure (VR.tup VRs.nil)
                | _ => exact Sim.dead (Dead.stuck _)
              | _ => exact Sim.dead (Dead.bind (Dead.stuck _))
            | _ => exact Sim.dead (Dead.stuck _)
end maps
end Go.Proofs.YtmbfdhekplnoaaaDoor

namespace Go.Proofs.YtmbfdhekplnoaaaDoor
open Go

section range
variable {C : Ctx} {ρ : Brel}
theorem MRs.append {Fn : FnR} {xs ys us vs : Array MapEntry} (h : MRs Fn ρ xs ys) (k : MRs Fn ρ us vs) : MRs Fn ρ (xs ++ us) (ys ++ vs) := by
  refine ⟨by simp [h.1, k.1], fun i a b ha hb => ?_⟩
  rw [Array.getElem?_append] at ha hb
  rw [← h.1] at hb
  split at ha
  · rename_i e
    rw [if_pos e] at hb
    exact h.2 i a b ha hb
  · rename_i e
    rw [if_neg e] at hb
    exact k.2 _ a b ha hb
theorem ML.filter {Fn : FnR} (p : MapEntry → Bool) (hp : ∀ x y, MR Fn ρ x y → p y = p x) : ∀ {xs ys : List MapEntry}, ML Fn ρ xs ys → ML Fn ρ (xs.filter p) (ys.filter p)
  | [], [], _ => trivial
  | x :: xs, y :: ys, h => by
    rw [List.filter_cons, List.filter_cons, hp x y h.1]
    split
    · exact ⟨h.1, ML.filter p hp h.2⟩
    · exact ML.filter p hp h.2
  | [], _ :: _, h => h.elim
  | _ :: _, [], h => h.elim
theorem MRs.filter {Fn : FnR} {xs ys : Array MapEntry} (h : MRs Fn ρ xs ys) (p : MapEntry → Bool) (hp : ∀ x y, MR Fn ρ x y → p y = p x) : MRs Fn ρ (xs.filter p) (ys.filter p) := by
  refine ML.arr ?_
  rw [Array.toList_filter, Array.toList_filter]
  exact ML.filter p hp h.list
theorem MRs.all_eq {Fn : FnR} {xs ys : Array MapEntry} (h : MRs Fn ρ xs ys) (p : MapEntry → Bool) (hp : ∀ x y, MR Fn ρ x y → p y = p x) : ys.all p = xs.all p := by
  rw [← Array.all_toList, ← Array.all_toList]
  have key : ∀ (l m : List MapEntry), ML Fn ρ l m → m.all p = l.all p := by
    intro l
    induction l with
    | nil => intro m h; cases m <;> first | exact h.elim | rfl
    | cons a l ih =>
      intro m h
      cases m with
      | nil => exact h.elim
      | cons b m => rw [List.all_cons, List.all_cons, hp a b h.1, ih m h.2]
  exact key _ _ h.list
theorem clean_iter (a : Option Nat) (n : Nat) (s : Array Nat) (k : Nat) : Obj.clean (.mapIter a n s k) := fun _ _ _ q => by cases q
theorem Sim.range {t : TypeId} (ht : ∃ k e, C.P.underlying t = some (.map k e)) {x y : Value} (h : VR C.Fn ρ x y) : Sim C (fun ρ => VR C.Fn ρ) ρ (Instr.range t x) (Instr.range t y) := by
  obtain ⟨kt, el, ht⟩ := ht
  refine Sim.bindK (k_underlying t) fun d hd => ?_
  have hu := is_underlying hd
  rw [ht] at hu
  cases hu
  cases h with
  | nilMap => exact Sim.bind (A := fun ρ a b => OR C.Fn ρ a b ∧ Obj.clean a) (Sim.pure ⟨.iter (a := none) (b := none) trivial 0 #[] 0, clean_iter _ _ _ _⟩) fun _ _ _ _ ho => Sim.bind (Sim.newObj ho.1 ho.2) fun _ _ _ _ r => Sim.pure (ptr_vr ⟨⟨r.1, rfl, rfl⟩, r.2⟩)
  | mp hr =>
    dsimp only
    refine Sim.bind (Sim.getObj hr) fun ρ1 o o' e1 ho => ?_
    cases ho with
    | map hm n => exact Sim.bind (A := fun ρ a b => OR C.Fn ρ a b ∧ Obj.clean a) (Sim.pure ⟨.iter (a := some _) (b := some _) (e1 _ _ hr) n #[] n, clean_iter _ _ _ _⟩) fun _ _ _ _ ho => Sim.bind (Sim.newObj ho.1 ho.2) fun _ _ _ _ r => Sim.pure (ptr_vr ⟨⟨r.1, rfl, rfl⟩, r.2⟩)
    | _ => exact Sim.dead (Dead.bind (Dead.stuck _))
  | _ => exact Sim.dead (Dead.bind (Dead.stuck _))
theorem cand_at {Fn : FnR} {xs ys : Array MapEntry} (h : MRs Fn ρ xs ys) (pre : Array (Option MapEntry)) (hpre : ∀ x ∈ pre, x = none) (i : Nat) :
    ((pre ++ xs.map some)[i]? = none ∧ (pre ++ ys.map some)[i]? = none) ∨ ((pre ++ xs.map some)[i]? = some none ∧ (pre ++ ys.map some)[i]? = some none) ∨ ∃ a b, (pre ++ xs.map some)[i]? = some (some a) ∧ (pre ++ ys.map some)[i]? = some (some b) ∧ MR Fn ρ a b := by
  rw [Array.getElem?_append, Array.getElem?_append]
  by_cases q : i < pre.size
  · rw [if_pos q, if_pos q]
    have e : pre[i]? = some none := by
      have : pre[i]? = some pre[i] := by simp [q]
      rw [this, hpre pre[i] (Array.getElem_mem _)]
    exact .inr (.inl ⟨e, e⟩)
  · rw [if_neg q, if_neg q, Array.getElem?_map, Array.getElem?_map]
    cases hx : xs[i - pre.size]? with
    | none =>
      have : ys[i - pre.size]? = none := by rw [Array.getElem?_eq_none_iff] at hx ⊢; rw [← h.1]; exact hx
      rw [this]; exact .inl ⟨rfl, rfl⟩
    | some x =>
      have hi : i - pre.size < ys.size := by rw [← h.1]; exact (Array.getElem?_eq_some_iff.1 hx).1
      have hy : ys[i - pre.size]? = some ys[i - pre.size] := by simp [hi]
      rw [hy]
      exact .inr (.inr ⟨x, _, rfl, rfl, h.2 _ _ _ hx hy⟩)
theorem Sim.next (t : TypeId) {x y : Value} (h : VR C.Fn ρ x y) : Sim C (fun ρ => VR C.Fn ρ) ρ (Instr.next x false t) (Instr.next y false t) := by
  unfold Instr.next
  cases h with
  | @ptr a b hr hno =>
    obtain ⟨ab, ao, as⟩ := a
    obtain ⟨bb, bo, bs⟩ := b
    obtain ⟨r, e1, e2⟩ := hr
    have e1 : bo = ao := e1
    subst e1
    have r : ρ ab bb := r
    cases bo with
    | succ n => exact Sim.dead (Dead.stuck _)
    | zero =>
      dsimp only
      refine Sim.bind (Sim.getObj r) fun ρ1 o o' x1 ho => ?_
      cases ho with
      | @iter m m' hm since seen last =>
        cases m with
        | none => cases m' with
          | none => exact Sim.pure (VR.tup (VRs.one (.bool false)))
          | some _ => exact hm.elim
        | some m => cases m' with
          | none => exact hm.elim
          | some m' =>
            dsimp only
            refine Sim.bind (Sim.getObj hm) fun ρ2 o2 o2' x2 ho2 => ?_
            cases ho2 with
            | @map es es' hes clock =>
              dsimp only
              rw [hes.empty_eq, hes.all_eq _ fun x y hxy => by rw [hxy.2.2]]
              refine Sim.ite (fun _ => Sim.dead (Dead.bind (Dead.unsupported _))) fun _ => ?_
              have f1 := hes.filter (fun e => !seen.contains e.born) fun x y hxy => by rw [hxy.2.2]
              have f2 := f1.filter (fun e => decide (e.born < since)) fun x y hxy => by rw [hxy.2.2]
              have f3 := f1.filter (fun e => decide (e.born ≥ since)) fun x y hxy => by rw [hxy.2.2]
              have f4 := f2.append f3
              rw [f2.empty_eq]
              generalize hp : (if (Array.filter (fun e => decide (e.born < since)) (Array.filter (fun e => !seen.contains e.born) es)).isEmpty = true then #[none] else (#[] : Array (Option MapEntry))) = pre
              have hpre : ∀ x ∈ pre, x = none := by
                intro x hx
                rw [← hp] at hx
                split at hx
                · simpa using hx
                · simp at hx
              have sz : ∀ (u v : Array MapEntry), u.size = v.size → (pre ++ v.map some).size = (pre ++ u.map some).size := fun u v q => by simp [q]
              rw [sz _ _ f4.1]
              refine Sim.bind (Sim.choose _) fun ρ3 p q x3 hpq => ?_
              subst hpq
              rcases cand_at f4 pre hpre q with ⟨g1, g2⟩ | ⟨g1, g2⟩ | ⟨a, b, g1, g2, hab⟩
              · rw [g1, g2]; exact Sim.dead (Dead.stuck _)
              · rw [g1, g2]; exact Sim.pure (VR.tup (VRs.one (.bool false)))
              · rw [g1, g2]
                dsimp only
                rw [hab.2.2]
                refine Sim.bind (Sim.setObj (x3 _ _ (x2 _ _ (x1 _ _ r))) (.iter (a := some m) (b := some m') (x3 _ _ (x2 _ _ hm)) since (seen.push a.born) clock) (clean_iter _ _ _ _)) fun ρ4 _ _ x4 _ => Sim.pure ?_
                exact VR.tup (((VRs.one (.bool true)).push (hab.1.mono (x3.trans x4))).push (hab.2.1.mono (x3.trans x4)))
            | _ => exact Sim.dead (Dead.stuck _)
      | _ => exact Sim.dead (Dead.stuck _)
  | _ => exact Sim.dead (Dead.stuck _)
/-! entries in place -/
theorem Sim.mapEntry (hZ : Zeros C.P) {t : TypeId} (hK : KeyOk C.P t) (hmt : ∀ k e, C.P.underlying t = some (.map k e) → e < C.P.types.size) {m m' k k' : Value} (hm : VR C.Fn ρ m m') (hk : VR C.Fn ρ k k') : Sim C (fun ρ => VR C.Fn ρ) ρ (Instr.mapEntry t m k) (Instr.mapEntry t m' k') := by
  refine Sim.bindK (k_underlying t) fun d hd => ?_
  have hu := is_underlying hd
  cases d with
  | map kt el =>
    have hel := hmt kt el hu
    dsimp only
    cases hm with
    | nilMap => exact Sim.dead (Dead.runtimePanic _)
    | mp hr =>
      dsimp only
      refine Sim.bind (Sim.getObj hr) fun ρ1 o o' e1 ho => ?_
      cases ho with
      | @map es es' hes n =>
        dsimp only
        refine Sim.bind (Sim.checkKey _ _ kt (hk.mono e1)) fun ρ2 _ _ e2 _ => Sim.bind (Sim.findKeyF (hK kt el hu) (hk.mono (e1.trans e2)) (hes.list.mono e2)) fun ρ3 u u' e3 hu1 => ?_
        have e := (e1.trans e2).trans e3
        have hes3 := hes.mono (e2.trans e3)
        cases u with
        | none =>
          cases u' with
          | some _ => exact hu1.1.elim
          | none =>
            dsimp only
            refine Sim.bindK (k_zeroValue el) fun z hz => ?_
            have hp : MR C.Fn ρ3 ⟨k, z, n⟩ ⟨k', z, n⟩ := ⟨hk.mono e, zero_vr hZ hel hz, rfl⟩
            exact Sim.bind (Sim.setObj (e _ _ hr) (.map (hes3.push hp) _) (clean_map _ _)) fun _ _ _ _ _ => Sim.pure (VR.tup (VRs.two (zero_vr hZ hel hz) (int_vr _)))
        | some u =>
          cases u' with
          | none => exact hu1.1.elim
          | some u' =>
            obtain ⟨i, a⟩ := u
            obtain ⟨i', a'⟩ := u'
            obtain ⟨hi, ha⟩ := hu1.1
            have hi : i' = i := hi
            subst hi
            obtain ⟨fk, x, hx, fx⟩ := hu1.2 i' a rfl
            have ha : VR C.Fn ρ3 a a' := ha
            dsimp only
            refine Sim.bind (Sim.keyThatStays (key_at hes3 _ (hk.mono e)) (hk.mono e) (key_flat hx fx) fk) fun ρ4 p q e4 hpq => ?_
            have hmod := (hes3.mono e4).modify i' (fun e => { key := p, val := e.val, born := e.born }) (fun e => { key := q, val := e.val, born := e.born }) fun x y hxy => ⟨hpq, hxy.2⟩
            have hborn : (es'[i']?.map (fun x => (x.born : Int))).getD 0 = (es[i']?.map (fun x => (x.born : Int))).getD 0 := by
              cases hx : es[i']? with
              | none =>
                have : es'[i']? = none := by rw [Array.getElem?_eq_none_iff] at hx ⊢; rw [← hes.1]; exact hx
                rw [this]
              | some x =>
                have hj : i' < es'.size := by rw [← hes.1]; exact (Array.getElem?_eq_some_iff.1 hx).1
                have hy : es'[i']? = some es'[i'] := by simp [hj]
                rw [hy]
                show ((es'[i'].born : Nat) : Int) = x.born
                rw [(hes.2 i' x _ hx hy).2.2]
            rw [hborn]
            exact Sim.bind (Sim.setObj ((e.trans e4) _ _ hr) (.map hmod _) (clean_map _ _)) fun _ _ _ e5 _ => Sim.pure (VR.tup (VRs.two (ha.mono (e4.trans e5)) (int_vr _)))
      | _ => exact Sim.dead (Dead.stuck _)
    | _ => exact Sim.dead (Dead.stuck _)
  | _ => exact Sim.dead (Dead.stuck _)
theorem findIdx_ml {Fn : FnR} (p : MapEntry → Bool) (hp : ∀ x y, MR Fn ρ x y → p y = p x) : ∀ {xs ys : List MapEntry}, ML Fn ρ xs ys → ys.findIdx? p = xs.findIdx? p
  | [], [], _ => rfl
  | x :: xs, y :: ys, h => by
    rw [List.findIdx?_cons, List.findIdx?_cons, hp x y h.1, findIdx_ml p hp h.2]
  | [], _ :: _, h => h.elim
  | _ :: _, [], h => h.elim
theorem Sim.entryStore (t : TypeId) {m m' k k' v v' : Value} (hm : VR C.Fn ρ m m') (hk : VR C.Fn ρ k k') (hv : VR C.Fn ρ v v') : Sim C (fun _ _ _ => True) ρ (Instr.entryStore t m k v) (Instr.entryStore t m' k' v') := by
  unfold Instr.entryStore
  cases hm with
  | mp hr =>
    dsimp only
    refine Sim.bind (Sim.getObj hr) fun ρ1 o o' e1 ho => ?_
    cases ho with
    | @map es es' hes n =>
      dsimp only
      refine Sim.bind (Sim.asInt (hk.mono e1)) fun ρ2 a b e2 hab => ?_
      subst hab
      have hf : es'.findIdx? (fun e => (e.born : Int) == b) = es.findIdx? (fun e => (e.born : Int) == b) := by
        obtain ⟨l⟩ := es
        obtain ⟨l'⟩ := es'
        simp only [List.findIdx?_toArray]
        exact findIdx_ml _ (fun x y hxy => by rw [hxy.2.2]) hes.list
      rw [hf]
      cases es.findIdx? (fun e => (e.born : Int) == b) with
      | none => exact Sim.dead (Dead.unsupported _)
      | some i =>
        have hmod := (hes.mono e2).modify i (fun e => { key := e.key, val := v, born := e.born }) (fun e => { key := e.key, val := v', born := e.born }) fun x y hxy => ⟨hxy.1, hv.mono (e1.trans e2), hxy.2.2⟩
        exact Sim.setObj ((e1.trans e2) _ _ hr) (.map hmod _) (clean_map _ _)
    | _ => exact Sim.dead (Dead.stuck _)
  | _ => exact Sim.dead (Dead.stuck _)
/-! min, max -/
theorem Sim.min2 {x x' y y' : Value} (h : VR C.Fn ρ x x') (k : VR C.Fn ρ y y') : Sim C (fun ρ => VR C.Fn ρ) ρ (Builtin.min2 x y) (Builtin.min2 x' y') := by
  cases h with
  | int k1 a => cases k <;> first | exact Sim.pure (.int _ _) | exact Sim.dead (Dead.unsupported _) | exact Sim.dead (Dead.stuck _)
  | string s =>
    cases k with
    | string u =>
      refine Sim.bind (Sim.noMem (nm_stringOp .leq s u).nm) fun _ p q _ e => ?_
      subst e
      refine Sim.bind (Sim.noMem (nm_asBool _)) fun _ a b _ e => ?_
      subst e
      exact Sim.pure (.string _)
    | _ => first | exact Sim.dead (Dead.unsupported _) | exact Sim.dead (Dead.stuck _)
  | _ => cases k <;> first | exact Sim.dead (Dead.unsupported _) | exact Sim.dead (Dead.stuck _)
theorem Sim.min (ts : Array TypeId) (t : TypeId) {xs ys : Array Value} (h : VRs C.Fn ρ xs ys) : Sim C (fun ρ => VR C.Fn ρ) ρ (Builtin.min_ ts t xs) (Builtin.min_ ts t ys) := by
  unfold Builtin.min_
  have hl := h.list
  generalize xs.toList = l at hl
  generalize ys.toList = m at hl
  cases l with
  | nil => exact Sim.dead (Dead.stuck _)
  | cons a l =>
    cases m with
    | nil => exact hl.elim
    | cons b m =>
      dsimp only
      have key : ∀ (l m : List Value) {ρ : Brel} {a b : Value}, VL C.Fn ρ l m → VR C.Fn ρ a b → Sim C (fun ρ => VR C.Fn ρ) ρ (l.foldlM Builtin.min2 a) (m.foldlM Builtin.min2 b) := by
        intro l
        induction l with
        | nil => intro m ρ a b hl hv; cases m <;> first | exact hl.elim | exact Sim.pure hv
        | cons u l ih =>
          intro m ρ a b hl hv
          cases m with
          | nil => exact hl.elim
          | cons v m =>
            rw [List.foldlM_cons, List.foldlM_cons]
            exact Sim.bind (Sim.min2 hv hl.1) fun ρ1 p q e hpq => ih m (hl.2.mono e) hpq
      exact key l m hl.2 hl.1
theorem Sim.max2 {x x' y y' : Value} (h : VR C.Fn ρ x x') (k : VR C.Fn ρ y y') : Sim C (fun ρ => VR C.Fn ρ) ρ (Builtin.max2 x y) (Builtin.max2 x' y') := by
  cases h with
  | int k1 a => cases k <;> first | exact Sim.pure (.int _ _) | exact Sim.dead (Dead.unsupported _) | exact Sim.dead (Dead.stuck _)
  | string s =>
    cases k with
    | string u =>
      refine Sim.bind (Sim.noMem (nm_stringOp .geq s u).nm) fun _ p q _ e => ?_
      subst e
      refine Sim.bind (Sim.noMem (nm_asBool _)) fun _ a b _ e => ?_
      subst e
      exact Sim.pure (.string _)
    | _ => first | exact Sim.dead (Dead.unsupported _) | exact Sim.dead (Dead.stuck _)
  | _ => cases k <;> first | exact Sim.dead (Dead.unsupported _) | exact Sim.dead (Dead.stuck _)
theorem Sim.max (ts : Array TypeId) (t : TypeId) {xs ys : Array Value} (h : VRs C.Fn ρ xs ys) : Sim C (fun ρ => VR C.Fn ρ) ρ (Builtin.max_ ts t xs) (Builtin.max_ ts t ys) := by
  unfold Builtin.max_
  have hl := h.list
  generalize xs.toList = l at hl
  generalize ys.toList = m at hl
  cases l with
  | nil => exact Sim.dead (Dead.stuck _)
  | cons a l =>
    cases m with
    | nil => exact hl.elim
    | cons b m =>
      dsimp only
      have key : ∀ (l m : List Value) {ρ : Brel} {a b : Value}, VL C.Fn ρ l m → VR C.Fn ρ a b → Sim C (fun ρ => VR C.Fn ρ) ρ (l.foldlM Builtin.max2 a) (m.foldlM Builtin.max2 b) := by
        intro l
        induction l with
        | nil => intro m ρ a b hl hv; cases m <;> first | exact hl.elim | exact Sim.pure hv
        | cons u l ih =>
          intro m ρ a b hl hv
          cases m with
          | nil => exact hl.elim
          | cons v m =>
            rw [List.foldlM_cons, List.foldlM_cons]
            exact Sim.bind (Sim.max2 hv hl.1) fun ρ1 p q e hpq => ih m (hl.2.mono e) hpq
      exact key l m hl.2 hl.1
theorem find_ml {Fn : FnR} (p : MapEntry → Bool) (hp : ∀ x y, MR Fn ρ x y → p y = p x) : ∀ {xs ys : List MapEntry}, ML Fn ρ xs ys → (xs.find? p = none ∧ ys.find? p = none) ∨ ∃ a b, xs.find? p = some a ∧ ys.find? p = some b ∧ MR Fn ρ a b
  | [], [], _ => .inl ⟨rfl, rfl⟩
  | x :: xs, y :: ys, h => by
    rw [List.find?_cons, List.find?_cons, hp x y h.1]
    cases p x with
    | true => exact .inr ⟨x, y, rfl, rfl, h.1⟩
    | false => exact find_ml p hp h.2
  | [], _ :: _, h => h.elim
  | _ :: _, [], h => h.elim
theorem Sim.entry {x y : Value} (h : VR C.Fn ρ x y) : Sim C (fun ρ => VR C.Fn ρ) ρ (Instr.entry x) (Instr.entry y) := by
  unfold Instr.entry
  cases h with
  | @ptr a b hr hno =>
    obtain ⟨ab, ao, as⟩ := a
    obtain ⟨bb, bo, bs⟩ := b
    obtain ⟨r, e1, e2⟩ := hr
    have e1 : bo = ao := e1
    subst e1
    have r : ρ ab bb := r
    cases bo with
    | succ n => exact Sim.dead (Dead.stuck _)
    | zero =>
      dsimp only
      refine Sim.bind (Sim.getObj r) fun ρ1 o o' x1 ho => ?_
      cases ho with
      | @iter m m' hm since seen last =>
        cases m with
        | none => cases m' with
          | none => exact Sim.dead (Dead.stuck _)
          | some _ => exact hm.elim
        | some m => cases m' with
          | none => exact hm.elim
          | some m' =>
            dsimp only
            cases seen.back? with
            | none => exact Sim.dead (Dead.stuck _)
            | some stamp =>
              dsimp only
              refine Sim.bind (Sim.getObj hm) fun ρ2 o2 o2' x2 ho2 => ?_
              cases ho2 with
              | @map es es' hes clock =>
                dsimp only
                refine Sim.ite (fun _ => Sim.dead (Dead.bind (Dead.unsupported _))) fun _ => ?_
                have hf : (es.find? (·.born == stamp) = none ∧ es'.find? (·.born == stamp) = none) ∨ ∃ a b, es.find? (·.born == stamp) = some a ∧ es'.find? (·.born == stamp) = some b ∧ MR C.Fn ρ2 a b := by
                  obtain ⟨l⟩ := es
                  obtain ⟨l'⟩ := es'
                  simp only [List.find?_toArray]
                  exact find_ml _ (fun x y hxy => by rw [hxy.2.2]) hes.list
                rcases hf with ⟨g1, g2⟩ | ⟨a, b, g1, g2, hab⟩
                · rw [g1, g2]; exact Sim.dead (Dead.unsupported _)
                · rw [g1, g2]; exact Sim.pure (VR.tup (VRs.two hab.1 hab.2.1))
              | _ => exact Sim.dead (Dead.stuck _)
      | _ => exact Sim.dead (Dead.stuck _)
  | _ => exact Sim.dead (Dead.stuck _)
/-! type assertions -/
theorem Sim.typeAssert (hZ : Zeros C.P) {xt at_ : TypeId} (hat : at_ < C.P.types.size) (ok : Bool) {x y : Value} (h : VR C.Fn ρ x y) : Sim C (fun ρ => VR C.Fn ρ) ρ (Instr.typeAssert x xt at_ ok) (Instr.typeAssert y xt at_ ok) := by
  unfold Instr.typeAssert
  have hold : ∀ {ρ : Brel} {u v : Value}, VR C.Fn ρ u v → VR C.Fn ρ (if ok = true then Value.tuple #[u, .bool true] else u) (if ok = true then Value.tuple #[v, .bool true] else v) := by
    intro ρ u v huv
    split
    · exact VR.tup (VRs.two huv (.bool true))
    · exact huv
  have fail : ∀ {ρ : Brel} (a b : Option TypeId) (m : String), Sim C (fun ρ => VR C.Fn ρ) ρ (if ok = true then do Pure.pure (Value.tuple #[← zeroValue at_, .bool false]) else Go.runtimePanic (.typeAssertion a b at_ m)) (if ok = true then do Pure.pure (Value.tuple #[← zeroValue at_, .bool false]) else Go.runtimePanic (.typeAssertion a b at_ m)) :=
    fun a b m => Sim.ite (fun _ => Sim.bindK (k_zeroValue at_) fun z hz => Sim.pure (VR.tup (VRs.two (zero_vr hZ hat hz) (.bool false)))) fun _ => Sim.dead (Dead.runtimePanic _)
  refine Sim.bindK (k_underlying at_) fun d _ => ?_
  cases d with
  | interface want =>
    cases h with
    | nilIface => exact fail none none ""
    | iface t hx =>
      dsimp only
      refine Sim.bindK (k_typeInfo t) fun i _ => ?_
      cases Instr.missingMethod want i.methods with
      | none => exact Sim.pure (hold (.iface t hx))
      | some m => exact fail none (some t) m
    | _ => exact Sim.dead (Dead.stuck _)
  | _ =>
    cases h with
    | nilIface => exact fail (some xt) none ""
    | iface t hx =>
      dsimp only
      exact Sim.ite (fun _ => Sim.pure (hold hx)) fun _ => fail (some xt) (some t) ""
    | _ => exact Sim.dead (Dead.stuck _)
end range
end Go.Proofs.YtmbfdhekplnoaaaDoor

namespace Go.Proofs.YtmbfdhekplnoaaaDoor
open Go

section meth
variable {C : Ctx} {ρ : Brel}
def PR (Fn : FnR) (ρ : Brel) : Place → Place → Prop
  | .val x, .val y => VR Fn ρ x y
  | .var a, .var b => AN Fn ρ a b
  | _, _ => False
theorem Sim.placeGet (t : TypeId) {x y : Place} (h : PR C.Fn ρ x y) : Sim C (fun ρ => VR C.Fn ρ) ρ (Place.get t x) (Place.get t y) := by
  cases x <;> cases y <;> first | exact Sim.pure h | exact Sim.loadVar t h.1 | exact h.elim
theorem Sim.follow : ∀ (l : List FieldStep) {ρ : Brel} (t : TypeId) {x y : Place}, PR C.Fn ρ x y → Sim C (fun ρ p q => q.1 = p.1 ∧ PR C.Fn ρ p.2 q.2) ρ (Go.follow l t x) (Go.follow l t y)
  | [], ρ, t, x, y, h => Sim.pure ⟨rfl, h⟩
  | s :: rest, ρ, t, x, y, h => by
    unfold Go.follow
    refine Sim.bindK (k_underlying s.struct) fun d _ => ?_
    cases d with
    | struct fs =>
      dsimp only
      cases fs[s.index]? with
      | none => exact Sim.dead (Dead.stuck _)
      | some f =>
        dsimp only
        refine Sim.ite (fun _ => ?_) fun _ => ?_
        · exact Sim.bind (Sim.placeGet t h) fun ρ1 u v e1 hv => Sim.bind (Sim.asAddr hv) fun ρ2 a b e2 r => Sim.bind (Sim.fieldPlace r.1 f) fun ρ3 c d e3 r3 => Sim.follow rest f.type (x := .var c) (y := .var d) ⟨r3.1, by rw [r3.2]; exact r.2⟩
        · cases x with
          | var a => cases y with
            | var b => exact Sim.bind (Sim.fieldPlace h.1 f) fun ρ3 c d e3 r3 => Sim.follow rest f.type (x := .var c) (y := .var d) ⟨r3.1, by rw [r3.2]; exact h.2⟩
            | val _ => exact h.elim
          | val u => cases y with
            | var _ => exact h.elim
            | val v =>
              have h : VR C.Fn ρ u v := h
              cases h with
              | agg h1 h2 => exact Sim.bind (Sim.part f.type ⟨h1, h2⟩ f.offset) fun ρ3 c d e3 r3 => Sim.follow rest f.type (x := .val c) (y := .val d) r3
              | _ => exact Sim.dead (Dead.stuck _)
    | _ => exact Sim.dead (Dead.stuck _)
theorem Sim.wrapNil (ts : Array TypeId) (t : TypeId) (s u : String) {x y : Value} (h : VR C.Fn ρ x y) : Sim C (fun ρ => VR C.Fn ρ) ρ (Builtin.ssaWrapNilChk_ ts t #[x, strVal s, strVal u]) (Builtin.ssaWrapNilChk_ ts t #[y, strVal s, strVal u]) := by
  unfold Builtin.ssaWrapNilChk_ strVal
  cases h with
  | ptr hr hno => exact Sim.pure (.ptr hr hno)
  | nilPtr =>
    refine Sim.dead ?_
    refine Dead.then (fine_choose _) fun n => ?_
    refine Dead.ite (Dead.bind (Dead.runtimePanic _)) ?_
    cases ts[0]? with
    | none => exact Dead.stuck _
    | some pt =>
      dsimp only
      refine Dead.then (fine_of_konst (k_underlying pt)) fun d => ?_
      cases d with
      | pointer e =>
        dsimp only
        refine Dead.then (fine_of_konst (k_typeInfo e)) fun i => ?_
        split
        · split
          · split
            · exact Dead.runtimePanic _
            · exact Dead.unsupported _
          · exact Dead.stuck _
        · exact Dead.stuck _
      | _ => exact Dead.stuck _
  | _ => exact Sim.dead (Dead.stuck _)
theorem Sim.receiverAt (t : TypeId) (b : Bool) (wr : Option String) {x y : Place} (h : PR C.Fn ρ x y) : Sim C (fun ρ => VR C.Fn ρ) ρ (Go.receiverAt t x b wr) (Go.receiverAt t y b wr) := by
  unfold Go.receiverAt
  refine Sim.bindK (k_underlying t) fun d _ => ?_
  cases d with
  | pointer el =>
    cases b with
    | true => exact Sim.placeGet t h
    | false =>
      dsimp only
      refine Sim.bind (Sim.placeGet t h) fun ρ1 u v e1 hv => ?_
      cases wr with
      | none => exact Sim.bind (A := fun ρ => VR C.Fn ρ) (Sim.pure hv) fun ρ2 p q _ hp => Sim.bind (Sim.asAddr hp) fun _ _ _ _ r => Sim.loadVar el r.1
      | some n => exact Sim.bind (Sim.wrapNil #[t] t "" n hv) fun ρ2 p q _ hp => Sim.bind (Sim.asAddr hp) fun _ _ _ _ r => Sim.loadVar el r.1
  | _ => cases b <;> cases x <;> cases y <;> first | exact h.elim | exact Sim.pure (.ptr h.1 h.2) | exact Sim.dead (Dead.stuck _) | exact Sim.placeGet t (x := .val _) (y := .val _) h | exact Sim.placeGet t (x := .var _) (y := .var _) h
def MethodOk (C : Ctx) (name : String) : Prop := ∀ t i m f b, C.P.info? t = some i → i.methods.find? (·.name == name) = some m → m.func = some (f, b) → C.Fn f
theorem Sim.method {name : String} (hM : MethodOk C name) (n : Nat) : ∀ {ρ : Brel} (t : TypeId) {x y : Value}, VR C.Fn ρ x y → Sim C (fun ρ p q => q.1 = p.1 ∧ C.Fn p.1 ∧ VR C.Fn ρ p.2 q.2) ρ (Go.method n t x name) (Go.method n t y name) := by
  induction n with
  | zero => intro ρ t x y h; exact Sim.dead (Dead.unsupported _)
  | succ n ih =>
    intro ρ t x y h
    unfold Go.method
    refine Sim.bindK (k_typeInfo t) fun i hi => ?_
    have hinfo := is_typeInfo hi
    cases hf : i.methods.find? (·.name == name) with
    | none => exact Sim.dead (Dead.stuck _)
    | some m =>
      dsimp only
      refine Sim.bind (Sim.follow m.path.toList t (x := .val x) (y := .val y) h) fun ρ1 p q e1 hpq => ?_
      obtain ⟨p1, p2⟩ := p
      obtain ⟨q1, q2⟩ := q
      obtain ⟨g1, g2⟩ := hpq
      have g1 : q1 = p1 := g1
      subst g1
      have g2 : PR C.Fn ρ1 p2 q2 := g2
      dsimp only
      cases hfn : m.func with
      | none =>
        dsimp only
        refine Sim.bind (Sim.placeGet q1 g2) fun ρ2 u v e2 hv => ?_
        cases hv with
        | iface t' h' => exact ih t' h'
        | nilIface => exact Sim.dead (Dead.runtimePanic _)
        | _ => exact Sim.dead (Dead.stuck _)
      | some fb =>
        obtain ⟨f, b⟩ := fb
        exact Sim.bind (Sim.receiverAt q1 b _ g2) fun ρ2 u v e2 hv => Sim.pure ⟨rfl, hM t i m f b hinfo hf hfn, hv⟩
end meth
end Go.Proofs.YtmbfdhekplnoaaaDoor
