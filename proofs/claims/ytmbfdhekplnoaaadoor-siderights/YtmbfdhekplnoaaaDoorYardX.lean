/-
  THE FARM: a number is handed to a worker; what it made is handed to the starter.
  THE FARM'S STEP: whoever moves, the invariant is kept and the measure falls, till the starter has all.
  THE YARD: the numbers are closed, each worker says Done and leaves, the starter waits for all. What is asked of each; where each stands.
-/
import Derived.Test.YtmbfdhekplnoaaaDoorFarmInvX
import Derived.Conc.WrWorld
namespace Go.Proofs.YtmbfdhekplnoaaaDoor
open Go Go.Conc
open Go.ConcN (sumTo upd sumTo_upd upd_ne upd_same)

section meet
variable {F : Farm} {gs gs' : Array Goroutine} {W : World} {t : Trace} {κ : Nat → KTag} {T : Nat → WT} {Own : Nat → Nat → Prop} {m next : Nat} {ds : List Nat}
theorem metOps_low {c s r a b B : Nat} {fa : FuncId} {pa : String} {fb : FuncId} {pb : String} (h : c < B) : ∀ op ∈ metOps c s r a b fa pa fb pb, op.act.low B := by
  intro op hop
  simp [metOps] at hop
  rcases hop with rfl | rfl | rfl | rfl <;> exact h
theorem met_norel {c s r a b : Nat} {fa : FuncId} {pa : String} {fb : FuncId} {pb : String} : ∀ op ∈ metOps c s r a b fa pa fb pb, NR op.act ∧ (op.g = a ∨ op.g = b) := by
  intro op hop
  simp [metOps] at hop
  rcases hop with rfl | rfl | rfl | rfl
  · exact ⟨fun _ e => (by cases e), .inl rfl⟩
  · exact ⟨fun _ e => (by cases e), .inr rfl⟩
  · exact ⟨fun _ e => (by cases e), .inl rfl⟩
  · exact ⟨fun _ e => (by cases e), .inr rfl⟩
theorem FarmAt.out (K : F.Known) (h : FarmAt F gs W t κ T Own (m + 1) next ds) (hn : next < F.M) {j f : Nat} (hj : 1 ≤ j) (hjN : j < F.N + 1) (hkj : κ j = .walkR (f + 1) ∨ κ j = .parkR (f + 1)) {x y : Goroutine} (hm : Met gs gs' j x y)
    {s : Nat} {tm : Bool} (hs : W.heap[F.cn]? = some (.chan 0 #[] false s s tm)) (d : Nat)
    (hx : ∀ W1, RelyJ F.J (Own 0) F.Sh W W1 → GoesJ F.P true F.J F.Sh (MSel F m (next + 1) ds) (Own 0) x W1) (hy : ∀ W1, RelyJ F.J (Own j) F.Sh W W1 → GoesJ F.P false F.J F.Sh (KSend F next (KRecv F f)) (Own j) y W1)
    {fa : FuncId} {pa : String} {fb : FuncId} {pb : String} :
    ∃ κ' T', FarmAt F gs' ((W.at d).setChan F.cn 0 #[] false (s + 1) (s + 1) tm) (t ++ metOps F.cn s s 0 j fa pa fb pb) κ' T' Own m (next + 1) ds := by
  obtain ⟨hSy, cn', cb', hJ⟩ := met_world K h (.inl rfl) hs d
  have hR : ∀ k, RelyJ F.J (Own k) F.Sh W ((W.at d).setChan F.cn 0 #[] false (s + 1) (s + 1) tm) := fun k => ⟨hSy.rely h.own k, h.j, hJ⟩
  obtain ⟨T0, hT0⟩ := hx _ (hR 0)
  obtain ⟨Tj, hTj⟩ := hy _ (hR j)
  have lt : F.cn < W.heap.size := (Array.getElem?_eq_some_iff.1 hs).1
  have z1 : (0 : Nat) ≠ j := by omega
  have tj : (κ j).task = none := by rcases hkj with e | e <;> (rw [e]; rfl)
  have fj : (κ j).fuel = f + 1 := by rcases hkj with e | e <;> (rw [e]; rfl)
  have qj : (κ j).quits = false := by rcases hkj with e | e <;> (rw [e]; rfl)
  have q0 : (κ 0).quits = false := by rcases h.zero with e | e <;> (rw [e]; rfl)
  have nin : next ∉ ds := fun q => by have := h.dlt next q; omega
  have e0 : ∀ {α : Type} (u : Nat → α) (a b : α), upd (upd u j a) 0 b 0 = b := fun u a b => upd_same _ _ _
  have ej : ∀ {α : Type} (u : Nat → α) (a b : α), upd (upd u j a) 0 b j = a := fun u a b => by rw [upd_ne _ _ z1.symm, upd_same]
  have eo : ∀ {α : Type} (u : Nat → α) (a b : α) {k : Nat}, k ≠ 0 → k ≠ j → upd (upd u j a) 0 b k = u k := fun u a b k k0 kj => by rw [upd_ne _ _ k0, upd_ne _ _ kj]
  have task0 : (KTag.mwalk).task = none := rfl
  have tk : ∀ k i, (upd (upd κ j (.walkS next f)) 0 .mwalk k).task = some i → (k = j ∧ i = next) ∨ (k ≠ 0 ∧ k ≠ j ∧ (κ k).task = some i) := fun k i e => by
    by_cases k0 : k = 0
    · rw [k0, e0] at e; cases e
    · by_cases kj : k = j
      · rw [kj, ej] at e; cases e; exact .inl ⟨kj, rfl⟩
      · rw [eo _ _ _ k0 kj] at e; exact .inr ⟨k0, kj, e⟩
  refine ⟨upd (upd κ j (.walkS next f)) 0 .mwalk, upd (upd T j Tj) 0 T0, ?_⟩
  exact { size := hm.size.trans h.size
          own := by
            rw [hSy.size]
            have := h.own.met (fa := fa) (pa := pa) (fb := fb) (pb := pb) (a := 0) (b := j) (c := F.cn) (s := s) (h.act (by omega) q0) (h.deaf 0 (by omega) q0) (h.deaf j hjN qj) (metOps_low lt) (fun _ => False) (fun _ q => q.elim)
            rwa [ownGive_none] at this
          told := h.told.mute (fun op hop => (met_norel op hop).1) (fun op hop => (metOps_touch _ _ _ _ _ _ _ _ _ op hop).2.elim (fun e => by rw [e]; omega) fun e => by rw [e]; exact hjN) fun op hop => (metOps_touch _ _ _ _ _ _ _ _ _ op hop).1
          deaf := fun i hi hq => by
            rw [Deaf_met]
            by_cases i0 : i = 0
            · rw [i0]; exact h.deaf 0 (by omega) q0
            · by_cases ij : i = j
              · rw [ij]; exact h.deaf j hjN qj
              · rw [eo _ _ _ i0 ij] at hq; exact h.deaf i hi hq
          left := fun k q g hk e hg => by
            rw [Deaf_met]
            have k0 : k ≠ 0 := fun z => by rw [z, e0] at e; cases e
            have kj : k ≠ j := fun z => by rw [z, ej] at e; cases e
            rw [eo _ _ _ k0 kj] at e
            exact h.left k q g hk e ((hm.oth k k0 kj).symm.trans hg)
          crew := fun _ => ⟨j, hj, hjN, by rw [ej]; rfl⟩
          cn := cn', cb := cb', j := hJ
          hold := K.hst W _ (fun b _ bn bb => Array.getElem?_setIfInBounds_ne bn.symm) h.hold
          who := fun k hk => by
            by_cases k0 : k = 0
            · rw [k0, e0, ← h.who 0 (by omega), q0]; rfl
            · by_cases kj : k = j
              · rw [kj, ej, ← h.who j hjN, qj]; rfl
              · rw [eo _ _ _ k0 kj]; exact h.who k hk
          nx := hn, nd := h.nd, dlt := fun i hi => by have := h.dlt i hi; omega
          m_is := by have := h.m_is; omega
          zero := .inl (e0 _ _ _)
          oth := fun k hk => by
            by_cases kj : k = j
            · rw [kj, ej]; exact ⟨fun q => (by cases q), fun q => (by cases q)⟩
            · rw [eo _ _ _ (by omega) kj]; exact h.oth k hk
          at_ := fun k hk => by
            by_cases k0 : k = 0
            · refine ⟨x, k0 ▸ hm.zero, ?_⟩
              rw [k0, e0, e0]
              exact hT0
            · by_cases kj : k = j
              · refine ⟨y, kj ▸ hm.one, ?_⟩
                rw [kj, ej, ej]
                exact hTj
              · obtain ⟨g, hg, ha⟩ := h.at_ k hk
                refine ⟨g, (hm.oth k k0 kj).trans hg, ?_⟩
                rw [eo _ _ _ k0 kj, eo _ _ _ k0 kj]
                have := ha.rely K (hR k)
                have ok := h.oth k (by omega)
                generalize κ k = q at this ok
                cases q with
                | mwalk => exact absurd rfl ok.1
                | mpark => exact absurd rfl ok.2
                | _ => exact this
          fuel := fun k h1 hk hq => by
            by_cases kj : k = j
            · rw [kj, ej]; have := h.fuel j hj hjN qj; rw [fj] at this; show _ ≤ f; omega
            · rw [eo _ _ _ (by omega) kj] at hq ⊢; have := h.fuel k h1 hk hq; omega
          task := fun k i hk e => by
            rcases tk k i e with ⟨_, rfl⟩ | ⟨_, _, q⟩
            · exact ⟨by omega, nin⟩
            · have := h.task k i hk q; exact ⟨by omega, this.2⟩
          one := fun k k' i hk hk' e e' => by
            rcases tk k i e with ⟨rfl, rfl⟩ | ⟨_, _, q⟩
            · rcases tk k' _ e' with ⟨rfl, _⟩ | ⟨_, _, q'⟩
              · rfl
              · have := (h.task k' _ hk' q').1; omega
            · rcases tk k' i e' with ⟨rfl, rfl⟩ | ⟨_, _, q'⟩
              · have := (h.task k _ hk q).1; omega
              · exact h.one k k' i hk hk' q q'
          all := fun i hi hd => by
            by_cases e : i = next
            · exact ⟨j, hjN, by rw [ej, e]; rfl⟩
            · obtain ⟨k, hk, q⟩ := h.all i (by omega) hd
              have k0 : k ≠ 0 := fun z => by rw [z] at q; rcases h.zero with y | y <;> (rw [y] at q; cases q)
              have kj : k ≠ j := fun z => by rw [z, tj] at q; cases q
              exact ⟨k, hk, by rw [eo _ _ _ k0 kj]; exact q⟩
          idle := fun q => by rw [e0] at q; cases q }
theorem nodup_le : ∀ (n : Nat) (l : List Nat), l.Nodup → (∀ x ∈ l, x < n) → l.length ≤ n
  | 0, l, _, h => by
    cases l with
    | nil => exact Nat.le_refl _
    | cons a l => exact absurd (h a (by simp)) (by omega)
  | n + 1, l, hd, h => by
    by_cases hn : n ∈ l
    · have := nodup_le n (l.erase n) (hd.erase n) fun x hx => by
        have h1 := h x (List.mem_of_mem_erase hx)
        have h2 : x ≠ n := fun e => by
          rw [e] at hx
          exact hd.not_mem_erase hx
        omega
      rw [List.length_erase_of_mem hn] at this
      omega
    · have := nodup_le n l hd fun x hx => by
        have h1 := h x hx
        have h2 : x ≠ n := fun e => hn (e ▸ hx)
        omega
      omega
theorem FarmAt.back (K : F.Known) (h : FarmAt F gs W t κ T Own (m + 1) next ds) {j i f : Nat} (hj : 1 ≤ j) (hjN : j < F.N + 1) (hkj : κ j = .walkS i f ∨ κ j = .parkS i f) {x y : Goroutine} (hm : Met gs gs' j x y)
    {s : Nat} {tm : Bool} (hs : W.heap[F.cb]? = some (.chan 0 #[] false s s tm)) (d : Nat) (v : Value) (X : Nat → Prop) (hX : ∀ b, X b → Own j b) (hRv : F.R i v X W)
    (hx : ∀ W1, RelyJ F.J (Own 0) F.Sh W W1 → F.R i v X W1 → GoesJ F.P true F.J F.Sh (MSel F m next (i :: ds)) (fun b => Own 0 b ∨ X b) x W1) (hy : ∀ W1, RelyJ F.J (fun b => Own j b ∧ ¬ X b) F.Sh W W1 → GoesJ F.P false F.J F.Sh (KRecv F f) (fun b => Own j b ∧ ¬ X b) y W1)
    {fa : FuncId} {pa : String} {fb : FuncId} {pb : String} :
    ∃ κ' T' Own', FarmAt F gs' ((W.at d).setChan F.cb 0 #[] false (s + 1) (s + 1) tm) (t ++ metOps F.cb s s j 0 fa pa fb pb) κ' T' Own' m next (i :: ds) := by
  obtain ⟨hSy, cn', cb', hJ⟩ := met_world K h (.inr rfl) hs d
  have hR : ∀ k, RelyJ F.J (Own k) F.Sh W ((W.at d).setChan F.cb 0 #[] false (s + 1) (s + 1) tm) := fun k => ⟨hSy.rely h.own k, h.j, hJ⟩
  have RX := K.rst i v X W _ hRv ((hR j).less hX).r
  obtain ⟨T0, hT0⟩ := hx _ (hR 0) RX
  obtain ⟨Tj, hTj⟩ := hy _ ((hR j).less fun _ q => q.1)
  have lt : F.cb < W.heap.size := (Array.getElem?_eq_some_iff.1 hs).1
  have z1 : (0 : Nat) ≠ j := by omega
  have tj : (κ j).task = some i := by rcases hkj with e | e <;> (rw [e]; rfl)
  have fj : (κ j).fuel = f := by rcases hkj with e | e <;> (rw [e]; rfl)
  have qj : (κ j).quits = false := by rcases hkj with e | e <;> (rw [e]; rfl)
  have q0 : (κ 0).quits = false := by rcases h.zero with e | e <;> (rw [e]; rfl)
  obtain ⟨ilt, nin⟩ := h.task j i hjN tj
  have nd' : (i :: ds).Nodup := List.nodup_cons.2 ⟨nin, h.nd⟩
  have dlt' : ∀ q ∈ i :: ds, q < next := fun q hq => by
    rcases List.mem_cons.1 hq with rfl | hq
    · exact ilt
    · exact h.dlt q hq
  have len := nodup_le next (i :: ds) nd' dlt'
  have len' : ds.length + 1 ≤ next := len
  have e0 : ∀ {α : Type} (u : Nat → α) (a b : α), upd (upd u j a) 0 b 0 = b := fun u a b => upd_same _ _ _
  have ej : ∀ {α : Type} (u : Nat → α) (a b : α), upd (upd u j a) 0 b j = a := fun u a b => by rw [upd_ne _ _ z1.symm, upd_same]
  have eo : ∀ {α : Type} (u : Nat → α) (a b : α) {k : Nat}, k ≠ 0 → k ≠ j → upd (upd u j a) 0 b k = u k := fun u a b k k0 kj => by rw [upd_ne _ _ k0, upd_ne _ _ kj]
  have o0 : ownGive Own 0 X 0 = fun b => Own 0 b ∨ X b := funext fun b => propext (ownGive_to b)
  have oj : ownGive Own 0 X j = fun b => Own j b ∧ ¬ X b := funext fun b => propext (ownGive_other z1.symm b)
  have oo : ∀ k, k ≠ 0 → k ≠ j → ownGive Own 0 X k = Own k := fun k k0 kj => funext fun b => propext ((ownGive_other k0 b).trans ⟨And.left, fun q => ⟨q, fun z => kj (h.own.apart k j b q (hX b z))⟩⟩)
  have tk : ∀ k q, (upd (upd κ j (.walkR f)) 0 .mwalk k).task = some q → k ≠ 0 ∧ k ≠ j ∧ (κ k).task = some q := fun k q e => by
    by_cases k0 : k = 0
    · rw [k0, e0] at e; cases e
    · by_cases kj : k = j
      · rw [kj, ej] at e; cases e
      · rw [eo _ _ _ k0 kj] at e; exact ⟨k0, kj, e⟩
  refine ⟨upd (upd κ j (.walkR f)) 0 .mwalk, upd (upd T j Tj) 0 T0, ownGive Own 0 X, ?_⟩
  exact { size := hm.size.trans h.size
          own := by
            rw [hSy.size]
            exact h.own.met (fa := fa) (pa := pa) (fb := fb) (pb := pb) (a := j) (b := 0) (c := F.cb) (s := s) (h.act hjN qj) (h.deaf j hjN qj) (h.deaf 0 (by omega) q0) (metOps_low lt) X hX
          told := h.told.mute (fun op hop => (met_norel op hop).1) (fun op hop => (metOps_touch _ _ _ _ _ _ _ _ _ op hop).2.elim (fun e => by rw [e]; exact hjN) fun e => by rw [e]; omega) fun op hop => (metOps_touch _ _ _ _ _ _ _ _ _ op hop).1
          deaf := fun i hi hq => by
            rw [Deaf_met]
            by_cases i0 : i = 0
            · rw [i0]; exact h.deaf 0 (by omega) q0
            · by_cases ij : i = j
              · rw [ij]; exact h.deaf j hjN qj
              · rw [eo _ _ _ i0 ij] at hq; exact h.deaf i hi hq
          left := fun k q g hk e hg => by
            rw [Deaf_met]
            have k0 : k ≠ 0 := fun z => by rw [z, e0] at e; cases e
            have kj : k ≠ j := fun z => by rw [z, ej] at e; cases e
            rw [eo _ _ _ k0 kj] at e
            exact h.left k q g hk e ((hm.oth k k0 kj).symm.trans hg)
          crew := fun _ => ⟨j, hj, hjN, by rw [ej]; rfl⟩
          cn := cn', cb := cb', j := hJ
          hold := K.hst W _ (fun b _ bn bb => Array.getElem?_setIfInBounds_ne bb.symm) h.hold
          who := fun k hk => by
            by_cases k0 : k = 0
            · rw [k0, e0, ← h.who 0 (by omega), q0]; rfl
            · by_cases kj : k = j
              · rw [kj, ej, ← h.who j hjN, qj]; rfl
              · rw [eo _ _ _ k0 kj]; exact h.who k hk
          nx := h.nx, nd := nd', dlt := dlt'
          m_is := by have := h.m_is; have := h.nx; rw [List.length_cons]; omega
          zero := .inl (e0 _ _ _)
          oth := fun k hk => by
            by_cases kj : k = j
            · rw [kj, ej]; exact ⟨fun q => (by cases q), fun q => (by cases q)⟩
            · rw [eo _ _ _ (by omega) kj]; exact h.oth k hk
          at_ := fun k hk => by
            by_cases k0 : k = 0
            · refine ⟨x, k0 ▸ hm.zero, ?_⟩
              rw [k0, e0, e0, o0]
              exact hT0
            · by_cases kj : k = j
              · refine ⟨y, kj ▸ hm.one, ?_⟩
                rw [kj, ej, ej, oj]
                exact hTj
              · obtain ⟨g, hg, ha⟩ := h.at_ k hk
                refine ⟨g, (hm.oth k k0 kj).trans hg, ?_⟩
                rw [eo _ _ _ k0 kj, eo _ _ _ k0 kj, oo k k0 kj]
                have := ha.rely K (hR k)
                have ok := h.oth k (by omega)
                generalize κ k = q at this ok
                cases q with
                | mwalk => exact absurd rfl ok.1
                | mpark => exact absurd rfl ok.2
                | _ => exact this
          fuel := fun k h1 hk hq => by
            by_cases kj : k = j
            · rw [kj, ej]; have := h.fuel j hj hjN qj; rw [fj] at this; exact this
            · rw [eo _ _ _ (by omega) kj] at hq ⊢; exact h.fuel k h1 hk hq
          task := fun k q hk e => by
            obtain ⟨_, kj, z⟩ := tk k q e
            have := h.task k q hk z
            exact ⟨this.1, fun w => by
              rcases List.mem_cons.1 w with rfl | w
              · exact kj (h.one k j _ hk hjN z tj)
              · exact this.2 w⟩
          one := fun k k' q hk hk' e e' => h.one k k' q hk hk' (tk k q e).2.2 (tk k' q e').2.2
          all := fun q hq hd => by
            obtain ⟨k, hk, z⟩ := h.all q hq fun w => hd (List.mem_cons_of_mem _ w)
            have k0 : k ≠ 0 := fun e => by rw [e] at z; rcases h.zero with y | y <;> (rw [y] at z; cases z)
            have kj : k ≠ j := fun e => by
              rw [e, tj] at z
              cases z
              exact hd (by simp)
            exact ⟨k, hk, by rw [eo _ _ _ k0 kj]; exact z⟩
          idle := fun q => by rw [e0] at q; cases q }
theorem FarmAt.waits (K : F.Known) (h : FarmAt F gs W t κ T Own m next ds) {k : Nat} (hk : k < F.N + 1) (tag : KTag) (g : Goroutine) (d : Nat) (ha : At F m next ds (T k) (Own k) g (W.at d) tag) (h0 : k = 0 → tag = .mpark) (h1 : 1 ≤ k → tag ≠ .mwalk ∧ tag ≠ .mpark) (hf : tag.fuel = (κ k).fuel) (ht : tag.task = (κ k).task) (hq : tag.quits = false) (hq' : (κ k).quits = false)
    (hi : upd κ k tag 0 = .mpark → (∀ l i f, l < F.N + 1 → upd κ k tag l ≠ .parkS i f) ∧ (next < F.M → ∀ l f, l < F.N + 1 → upd κ k tag l ≠ .parkR f)) :
    FarmAt F (gs.setIfInBounds k g) (W.at d) t (upd κ k tag) T Own m next ds := by
  have tk : ∀ l, (upd κ k tag l).task = (κ l).task := fun l => by
    by_cases e : l = k
    · rw [e, upd_same]; exact ht
    · rw [upd_ne _ _ e]
  exact { size := by simp [h.size]
          own := h.own
          told := h.told
          deaf := fun l hl q => by
            by_cases e : l = k
            · rw [e]; exact h.deaf k hk hq'
            · rw [upd_ne _ _ e] at q; exact h.deaf l hl q
          left := fun l q g' hl e hg => by
            have lk : l ≠ k := fun z => by rw [z, upd_same] at e; rw [e] at hq; cases hq
            rw [upd_ne _ _ lk] at e
            rw [Array.getElem?_setIfInBounds_ne fun z => lk z.symm] at hg
            exact h.left l q g' hl e hg
          crew := fun hM => by
            obtain ⟨l, a, b, c⟩ := h.crew hM
            refine ⟨l, a, b, ?_⟩
            by_cases e : l = k
            · rw [e, upd_same]; exact hq
            · rw [upd_ne _ _ e]; exact c
          cn := h.cn, cb := h.cb, j := K.jst W (W.at d) (fun _ _ => rfl) h.j
          hold := K.hst W (W.at d) (fun _ _ _ _ => rfl) h.hold
          who := fun l hl => by
            by_cases e : l = k
            · rw [e, upd_same, hq, ← h.who k hk, hq']
            · rw [upd_ne _ _ e]; exact h.who l hl
          nx := h.nx, nd := h.nd, dlt := h.dlt, m_is := h.m_is
          zero := by
            by_cases e : 0 = k
            · subst e; rw [upd_same]; exact .inr (h0 rfl)
            · rw [upd_ne _ _ e]; exact h.zero
          oth := fun l hl => by
            by_cases e : l = k
            · rw [e, upd_same]; exact h1 (by omega)
            · rw [upd_ne _ _ e]; exact h.oth l hl
          at_ := fun l hl => by
            by_cases e : l = k
            · refine ⟨g, ?_, ?_⟩
              · rw [e]; exact Array.getElem?_setIfInBounds_self_of_lt (by rw [h.size]; exact hk)
              · rw [e, upd_same]; exact ha
            · obtain ⟨g', hg, hat⟩ := h.at_ l hl
              refine ⟨g', by rw [Array.getElem?_setIfInBounds_ne fun z => e z.symm]; exact hg, ?_⟩
              rw [upd_ne _ _ e]
              exact hat.rely K ⟨Rely.at _ _ _ _, h.j, K.jst W (W.at d) (fun _ _ => rfl) h.j⟩
          fuel := fun l a b q => by
            by_cases e : l = k
            · rw [e, upd_same, hf]; exact h.fuel k (by omega) hk hq'
            · rw [upd_ne _ _ e] at q ⊢; exact h.fuel l a b q
          task := fun l i hl e => h.task l i hl (tk l ▸ e)
          one := fun l l' i hl hl' e e' => h.one l l' i hl hl' (tk l ▸ e) (tk l' ▸ e')
          all := fun i a b => by
            obtain ⟨l, hl, e⟩ := h.all i a b
            exact ⟨l, hl, (tk l).trans e⟩
          idle := hi }
end meet
end Go.Proofs.YtmbfdhekplnoaaaDoor

namespace Go.Proofs.YtmbfdhekplnoaaaDoor
open Go Go.Conc
open Go.ConcN (sumTo upd sumTo_upd upd_ne upd_same sumTo_le)

theorem missing : ∀ (n : Nat) (l : List Nat), l.length < n → ∃ i, i < n ∧ i ∉ l := by
  have key : ∀ (n : Nat) (l : List Nat), (∀ i, i < n → i ∈ l) → n ≤ l.length := by
    intro n
    induction n with
    | zero => exact fun _ _ => Nat.zero_le _
    | succ n ih =>
      intro l h
      have hn := h n (by omega)
      have := ih (l.erase n) fun i hi => (List.mem_erase_of_ne (by omega)).2 (h i (by omega))
      rw [List.length_erase_of_mem hn] at this
      have := List.length_pos_of_mem hn
      omega
  intro n l hl
  apply Classical.byContradiction
  intro q
  have := key n l fun i hi => Classical.byContradiction fun z => q ⟨i, hi, z⟩
  omega
theorem touch_mute {e : Event} (h : e.mute = true) : (MemAct.ofEvent e).touch? = none := by
  obtain ⟨loc, wr, sy⟩ := e
  cases loc <;> simp_all [Event.mute]
  rename_i m
  cases m <;> simp_all [MemAct.ofEvent, MemAct.touch?]
theorem mute_norel {e : Event} (h : e.mute = true) : NR (MemAct.ofEvent e) := by
  intro a
  obtain ⟨loc, wr, sy⟩ := e
  cases loc <;> simp_all [Event.mute]
  rename_i m
  cases m <;> simp_all [MemAct.ofEvent]
theorem ofEvents_none (i : Nat) (fn : FuncId) (pos : String) : MemOp.ofEvents i fn pos #[] = #[] := rfl
section step
variable {F : Farm} {gs : Array Goroutine} {W : World} {t : Trace} {κ : Nat → KTag} {T : Nat → WT} {Own : Nat → Nat → Prop} {m next : Nat} {ds : List Nat}
theorem FarmAt.runs (hC : ∀ ds O g W, F.Close ds O g W → g.status = .running) (h : FarmAt F gs W t κ T Own m next ds) : (∀ g ∈ gs, awake g) ∧ ∃ (i : Nat) (g : Goroutine), gs[i]? = some g ∧ g.status = .running := by
  refine ⟨fun g hg => ?_, ?_⟩
  · obtain ⟨k, hlt, e⟩ := Array.mem_iff_getElem.1 hg
    obtain ⟨g', hg', ha⟩ := h.at_ k (by rw [← h.size]; exact hlt)
    have : g' = g := by rw [← e]; exact Option.some.inj (hg'.symm.trans (Array.getElem?_eq_getElem hlt))
    subst this
    intro s q
    have st := ha.status h.j hC
    generalize κ k = x at st
    cases x with
    | parkR _ => rw [st.2.1 rfl] at q; cases q
    | parkS _ _ => rw [st.2.1 rfl] at q; cases q
    | mpark => rw [st.2.1 rfl] at q; cases q
    | quit _ => rcases st.2.2 rfl with z | z <;> (rw [z] at q; cases q)
    | _ => rw [st.1 rfl] at q; cases q
  · have run : ∀ k, k < F.N + 1 → (κ k).up = 1 → ∃ (i : Nat) (g : Goroutine), gs[i]? = some g ∧ g.status = .running := fun k hk u => by
      obtain ⟨g, hg, ha⟩ := h.at_ k hk
      exact ⟨k, g, hg, (ha.status h.j hC).1 u⟩
    rcases h.zero with z | z
    · exact run 0 (by omega) (by rw [z]; rfl)
    · obtain ⟨i1, i2⟩ := h.idle z
      by_cases hn : next < F.M
      · obtain ⟨c, c1, cN, cq⟩ := h.crew (by omega)
        refine run c cN ?_
        have a := i1 c
        have b := i2 hn c
        have o := h.oth c c1
        generalize κ c = q at a b o cq
        cases q with
        | quit _ => cases cq
        | parkR f => exact absurd rfl (b f cN)
        | parkS i f => exact absurd rfl (a i f cN)
        | mpark => exact absurd rfl o.2
        | _ => rfl
      · obtain ⟨g, hg, ha⟩ := h.at_ 0 (by omega)
        rw [z] at ha
        obtain ⟨_, _, _, m', _, em, _⟩ := ha
        have mi := h.m_is
        have nx := h.nx
        obtain ⟨i, hi, hd⟩ := missing next ds (by omega)
        obtain ⟨k, hk, e⟩ := h.all i hi hd
        refine run k hk ?_
        have a := i1 k
        generalize κ k = q at a e
        cases q with
        | walkS _ _ => rfl
        | parkS i f => exact absurd rfl (a i f hk)
        | _ => cases e
theorem FarmAt.offer (hC : ∀ ds O g W, F.Close ds O g W → g.status = .running) (h : FarmAt F gs W t κ T Own m next ds) {j kj c : Nat} {gj : Goroutine} {csj : Array CommCase} {shj : CommShape} {cj : CommCase} (hj : gs[j]? = some gj) (hs : gj.status = .blocked) (ho : gj.offers = some (csj, shj)) (hk : csj[kj]? = some cj) (hc : cj.chan = .chan (some c)) :
    j < F.N + 1 ∧
    ((∃ f g₂ z, κ j = .parkR f ∧ gj = parked g₂ #[rcase F.cn z] shj ∧ csj = #[rcase F.cn z] ∧ kj = 0 ∧ cj.send = none ∧ c = F.cn ∧ RecvC F f (Own j) g₂ z shj W) ∨
     (∃ i f g₂ v z X, κ j = .parkS i f ∧ gj = parked g₂ #[scase F.cb v z] shj ∧ csj = #[scase F.cb v z] ∧ kj = 0 ∧ cj.send = some v ∧ c = F.cb ∧ SendC F i (KRecv F f) (Own j) g₂ v z shj X W) ∨
     (∃ g₂ m', κ j = .mpark ∧ j = 0 ∧ gj = parked g₂ csj shj ∧ m = m' + 1 ∧ SelC F (MSel F m') next ds (Own 0) g₂ csj shj W)) := by
  have hlt : j < F.N + 1 := by rw [← h.size]; exact (Array.getElem?_eq_some_iff.1 hj).1
  refine ⟨hlt, ?_⟩
  obtain ⟨g, hg, ha⟩ := h.at_ j hlt
  have : g = gj := Option.some.inj (hg.symm.trans hj)
  subst this
  have one : ∀ {x y : CommCase} {k : Nat}, #[x][k]? = some y → k = 0 ∧ y = x := fun {x y k} e => by
    match k, e with
    | 0, e => exact ⟨rfl, (Option.some.inj e).symm⟩
  have st := ha.status h.j hC
  have oth := h.oth j
  generalize κ j = q at ha st oth
  cases q with
  | quit q => rcases st.2.2 rfl with z | z <;> (rw [z] at hs; cases hs)
  | walkR f => rw [st.1 rfl] at hs; cases hs
  | walkS i f => rw [st.1 rfl] at hs; cases hs
  | mwalk => rw [st.1 rfl] at hs; cases hs
  | parkR f =>
    obtain ⟨g₂, z, sh, rfl, hr⟩ := ha
    cases ho
    obtain ⟨rfl, rfl⟩ := one hk
    cases hc
    exact .inl ⟨f, g₂, z, rfl, rfl, rfl, rfl, rfl, rfl, hr⟩
  | parkS i f =>
    obtain ⟨g₂, v, z, sh, X, rfl, hr⟩ := ha
    cases ho
    obtain ⟨rfl, rfl⟩ := one hk
    cases hc
    exact .inr (.inl ⟨i, f, g₂, v, z, X, rfl, rfl, rfl, rfl, rfl, rfl, hr⟩)
  | mpark =>
    obtain ⟨g₂, cs, sh, m', rfl, em, hr⟩ := ha
    cases ho
    have j0 : j = 0 := by
      rcases Nat.eq_zero_or_pos j with e | e
      · exact e
      · exact absurd rfl (oth e).2
    subst j0
    exact .inr (.inr ⟨g₂, m', rfl, rfl, rfl, em, hr⟩)
theorem farm_count (κ κ' : Nat → KTag) (N m : Nat) : FarmAt.count N κ' m < FarmAt.count N κ (m + 1) := by
  unfold FarmAt.count
  have : sumTo (N + 1) (fun k => (κ' k).up) ≤ 1 * (N + 1) := sumTo_le fun i _ => up_le _
  rw [Nat.add_mul]
  omega
theorem farm_park {κ : Nat → KTag} {N m k : Nat} {tag : KTag} (hk : k < N + 1) (h0 : tag.up = 0) (h1 : (κ k).up = 1) : FarmAt.count N (upd κ k tag) m < FarmAt.count N κ m := by
  unfold FarmAt.count
  have := sumTo_upd κ tag KTag.up hk
  omega
def FNext (F : Farm) (x : Stepped × Array MemOp) (t : Trace) (κ : Nat → KTag) (T : Nat → WT) (m : Nat) : Prop :=
  ∃ gs' W' sl' ops κ' T' Own' m' next' ds', x = (.next (crowd gs' W' sl'), ops) ∧ LtC (F.N + 1) (FarmAt.count F.N κ' m', T') (FarmAt.count F.N κ m, T) ∧ FarmAt F gs' W' (t ++ ops) κ' T' Own' m' next' ds'
theorem recv_nil {w : World} {gs : Array Goroutine} {c s r : Nat} {closed tm : Bool} {z : Value} (hc : w.heap[c]? = some (.chan 0 #[] closed s r tm)) (h : ways w gs (rcase c z) = []) : partners gs c true = [] := by
  rcases hp : partners gs c true with _ | ⟨p, ps⟩
  · rfl
  · simp [ways, rcase, hc, hp] at h
theorem send_nil {w : World} {gs : Array Goroutine} {c s r : Nat} {tm : Bool} {v z : Value} (hc : w.heap[c]? = some (.chan 0 #[] false s r tm)) (h : ways w gs (scase c v z) = []) : partners gs c false = [] := by
  rcases hp : partners gs c false with _ | ⟨p, ps⟩
  · rfl
  · simp [ways, scase, hc, hp] at h
theorem nil_ops (t : Trace) (i : Nat) (fn : FuncId) (pos : String) : t ++ MemOp.ofEvents i fn pos #[] = t := by rw [ofEvents_none, Array.append_empty]
theorem nil_ops' (t u : Trace) (i : Nat) (fn : FuncId) (pos : String) : t ++ (MemOp.ofEvents i fn pos #[] ++ u) = t ++ u := by rw [ofEvents_none, Array.empty_append]
theorem sel_at {next : Nat} {cs : Array CommCase} {ks kr : Nat} (hc : SelCases F next cs ks kr) {k : Nat} {cc : CommCase} (hk : cs[k]? = some cc) : k = ks ∨ k = kr := by
  have : k < cs.size := (Array.getElem?_eq_some_iff.1 hk).1
  obtain ⟨h0, h1, h2, h3, _⟩ := hc
  omega
theorem FarmAt.asks (K : F.Known) (hC : ∀ ds O g W, F.Close ds O g W → g.status = .running) (h : FarmAt F gs W t κ T Own m next ds) {k f : Nat} (hk1 : 1 ≤ k) (hk : k < F.N + 1) (hκ : κ k = .walkR f) {g : Goroutine} (hg : gs[k]? = some g) (hst : KRecv F f (Own k) g W) (d : Nat) (sl : Option (Nat × Nat)) : FNext F (runT F.P (crowd gs (W.at d) sl) k) t κ T m := by
  obtain ⟨_, g₂, z, sh, hstep, hrc⟩ := KRecv.iff.1 hst
  have k0 : (k == 0) = false := by rw [beq_eq_false_iff_ne]; omega
  have hs' : stepG F.P (k == 0) g (W.at d) = .comm g₂ #[rcase F.cn z] true sh (W.at d) #[] := by rw [k0]; exact hstep d
  obtain ⟨sn, tn, hcn⟩ := h.cn
  have hcn' : (W.at d).heap[F.cn]? = some (.chan 0 #[] false sn sn tn) := hcn
  have only : ∀ {k' : Nat} {cc : CommCase}, #[rcase F.cn z][k']? = some cc → k' = 0 ∧ cc = rcase F.cn z := fun {k' cc} e => by
    match k', e with
    | 0, e => exact ⟨rfl, (Option.some.inj e).symm⟩
  have hfit : ∀ cc ∈ #[rcase F.cn z], Fits (W.at d) cc := fun cc hcc => by
    rw [Array.mem_singleton.1 hcc]
    exact .inr ⟨F.cn, false, sn, sn, tn, rfl, hcn', fun q => by cases q⟩
  have rel : RelyJ F.J (Own k) F.Sh W (W.at d) := ⟨Rely.at _ _ _ _, h.j, K.jst W (W.at d) (fun _ _ => rfl) h.j⟩
  rcases crowd_comm (sl := sl) hg hs' hfit with ⟨hr, hno⟩ | ⟨k', cc, c, _, _, _, _, v, _, _, _, _, _, _, _, hk', _, hsv, _⟩ | ⟨k', cc, c, closed, s, r, tm, v, j, kj, gj, csj, shj, cj, d', hk', hcc, hsn, hch, hij, hj, hjs, hjo, hjk, hjc, hjv, hr⟩ | ⟨k', cc, c, s, r, tm, d', hk', hcc, _, hch, _, _⟩
  · refine ⟨_, _, _, _, upd κ k (.parkR f), T, Own, m, next, ds, hr, .left _ _ (farm_park hk rfl (by rw [hκ]; rfl)), ?_⟩
    rw [nil_ops]
    have hnp := recv_nil hcn' (hno (rcase F.cn z) (by simp))
    refine h.waits K hk (.parkR f) _ d (At.rely K (k := .parkR f) ⟨g₂, z, sh, rfl, hrc⟩ rel) (fun e => by omega) (fun _ => ⟨fun q => (by cases q), fun q => (by cases q)⟩) (by rw [hκ]; rfl) (by rw [hκ]; rfl) rfl (by rw [hκ]; rfl) fun e => ?_
    have e0 : κ 0 = .mpark := by rwa [upd_ne _ _ (by omega)] at e
    obtain ⟨i1, i2⟩ := h.idle e0
    refine ⟨fun l i f' hl q => ?_, fun hn l f' hl q => ?_⟩
    · by_cases lk : l = k
      · rw [lk, upd_same] at q; cases q
      · rw [upd_ne _ _ lk] at q; exact i1 l i f' hl q
    · obtain ⟨g0, hg0, ha0⟩ := h.at_ 0 (by omega)
      rw [e0] at ha0
      obtain ⟨g2, cs, sh2, m', rfl, _, ks, kr, hc, _⟩ := ha0
      obtain ⟨z', hks⟩ := hc.2.2.2.2.2.1 hn
      have := partner_is (gs := gs) (i := k) (j := 0) (k := ks) (c := F.cn) (send := true) (by omega) hg0 rfl rfl hks rfl rfl
      rw [hnp] at this
      cases this
  · obtain ⟨_, rfl⟩ := only hk'
    cases hsv
  · obtain ⟨rfl, rfl⟩ := only hk'
    cases hcc
    have e1 := hcn'.symm.trans hch
    cases e1
    obtain ⟨hjN, hof⟩ := h.offer hC hj hjs hjo hjk hjc
    rcases hof with ⟨_, _, _, _, _, _, _, hn, _⟩ | ⟨_, _, _, _, _, _, _, _, _, _, _, hcb, _⟩ | ⟨g₃, m', hκ0, rfl, rfl, rfl, ks, kr, hc, hsend, _⟩
    · rw [hjv] at hn; cases hn
    · exact absurd hcb K.cnb
    · have hn : next < F.M ∧ kj = ks ∧ v = F.num next := by
        rcases sel_at hc hjk with e | e
        · by_cases hn : next < F.M
          · obtain ⟨z', hks⟩ := hc.2.2.2.2.2.1 hn
            rw [e, hks] at hjk
            cases hjk
            cases hjv
            exact ⟨hn, e, rfl⟩
          · obtain ⟨cc, hks, hcn0⟩ := hc.2.2.2.2.2.2 hn
            rw [e, hks] at hjk
            cases hjk
            rw [hcn0] at hjc
            cases hjc
        · obtain ⟨z', hkr⟩ := hc.2.2.2.2.1
          rw [e, hkr] at hjk
          cases hjk
          cases hjv
      obtain ⟨hn, rfl, rfl⟩ := hn
      have hfu := h.fuel k hk1 hk (by rw [hκ]; rfl)
      rw [hκ] at hfu
      obtain ⟨f', rfl⟩ : ∃ f', f = f' + 1 := ⟨f - 1, by have : F.M - next ≤ f := hfu; omega⟩
      have hM := met_set' (gs := gs) (j := k) (x := (parked g₃ csj shj).finishComm F.P csj shj kj undef false) (y := g₂.finishComm F.P #[rcase F.cn z] sh 0 (F.num next) true) (by omega) (by rw [h.size]; omega) (by rw [h.size]; omega)
      obtain ⟨κ', T', hF⟩ := h.out K hn hk1 hk (.inl hκ) hM hcn d' (fun W1 q => hsend hn W1 q) (fun W1 q => hrc.2 f' rfl next hn W1 q) (fa := (parked g₃ csj shj).frame.fn) (pa := (parked g₃ csj shj).frame.place) (fb := g₂.frame.fn) (pb := g₂.frame.place)
      exact ⟨_, _, _, _, κ', T', Own, m', next + 1, ds, hr, .left _ _ (farm_count _ _ _ _), by rw [nil_ops']; exact hF⟩
  · obtain ⟨_, rfl⟩ := only hk'
    cases hcc
    rw [hcn'] at hch
    cases hch
theorem FarmAt.gives (K : F.Known) (hC : ∀ ds O g W, F.Close ds O g W → g.status = .running) (h : FarmAt F gs W t κ T Own m next ds) {k i f : Nat} (hk1 : 1 ≤ k) (hk : k < F.N + 1) (hκ : κ k = .walkS i f) {g : Goroutine} (hg : gs[k]? = some g) (hst : KSend F i (KRecv F f) (Own k) g W) (d : Nat) (sl : Option (Nat × Nat)) : FNext F (runT F.P (crowd gs (W.at d) sl) k) t κ T m := by
  obtain ⟨_, g₂, v, z, sh, X, hstep, hsc⟩ := hst
  have k0 : (k == 0) = false := by rw [beq_eq_false_iff_ne]; omega
  have hs' : stepG F.P (k == 0) g (W.at d) = .comm g₂ #[scase F.cb v z] true sh (W.at d) #[] := by rw [k0]; exact hstep d
  obtain ⟨sb, tb, hcb⟩ := h.cb
  have hcb' : (W.at d).heap[F.cb]? = some (.chan 0 #[] false sb sb tb) := hcb
  have only : ∀ {k' : Nat} {cc : CommCase}, #[scase F.cb v z][k']? = some cc → k' = 0 ∧ cc = scase F.cb v z := fun {k' cc} e => by
    match k', e with
    | 0, e => exact ⟨rfl, (Option.some.inj e).symm⟩
  have hfit : ∀ cc ∈ #[scase F.cb v z], Fits (W.at d) cc := fun cc hcc => by
    rw [Array.mem_singleton.1 hcc]
    exact .inr ⟨F.cb, false, sb, sb, tb, rfl, hcb', fun _ => rfl⟩
  have rel : RelyJ F.J (Own k) F.Sh W (W.at d) := ⟨Rely.at _ _ _ _, h.j, K.jst W (W.at d) (fun _ _ => rfl) h.j⟩
  rcases crowd_comm (sl := sl) hg hs' hfit with ⟨hr, hno⟩ | ⟨k', cc, c, closed, s, r, tm, v', j, kj, gj, csj, shj, cj, d', hk', hcc, hsv, hch, hij, hj, hjs, hjo, hjk, hjc, hjv, hr⟩ | ⟨k', cc, _, _, _, _, _, _, _, _, _, _, _, _, _, hk', _, hsn, _⟩ | ⟨k', cc, _, _, _, _, _, hk', _, hsn, _⟩
  · refine ⟨_, _, _, _, upd κ k (.parkS i f), T, Own, m, next, ds, hr, .left _ _ (farm_park hk rfl (by rw [hκ]; rfl)), ?_⟩
    rw [nil_ops]
    have hnp := send_nil hcb' (hno (scase F.cb v z) (by simp))
    refine h.waits K hk (.parkS i f) _ d (At.rely K (k := .parkS i f) ⟨g₂, v, z, sh, X, rfl, hsc⟩ rel) (fun e => by omega) (fun _ => ⟨fun q => (by cases q), fun q => (by cases q)⟩) (by rw [hκ]; rfl) (by rw [hκ]; rfl) rfl (by rw [hκ]; rfl) fun e => ?_
    have e0 : κ 0 = .mpark := by rwa [upd_ne _ _ (by omega)] at e
    obtain ⟨g0, hg0, ha0⟩ := h.at_ 0 (by omega)
    rw [e0] at ha0
    obtain ⟨g2, cs, sh2, m', rfl, _, ks, kr, hc, _⟩ := ha0
    obtain ⟨z', hkr⟩ := hc.2.2.2.2.1
    have := partner_is (gs := gs) (i := k) (j := 0) (k := kr) (c := F.cb) (send := false) (by omega) hg0 rfl rfl hkr rfl rfl
    rw [hnp] at this
    cases this
  · obtain ⟨rfl, rfl⟩ := only hk'
    cases hcc
    cases hsv
    have e1 := hcb'.symm.trans hch
    cases e1
    obtain ⟨hjN, hof⟩ := h.offer hC hj hjs hjo hjk hjc
    rcases hof with ⟨_, _, _, _, _, _, _, _, hcn, _⟩ | ⟨_, _, _, _, _, _, _, _, _, _, hn, _⟩ | ⟨g₃, m', hκ0, rfl, rfl, rfl, ks, kr, hc, _, hrecv⟩
    · exact absurd hcn.symm K.cnb
    · rw [hjv] at hn; cases hn
    · have hkr : kj = kr := by
        rcases sel_at hc hjk with e | e
        · by_cases hn : next < F.M
          · obtain ⟨z', hks⟩ := hc.2.2.2.2.2.1 hn
            rw [e, hks] at hjk
            cases hjk
            cases hjv
          · obtain ⟨cc, hks, hcn0⟩ := hc.2.2.2.2.2.2 hn
            rw [e, hks] at hjk
            cases hjk
            rw [hcn0] at hjc
            cases hjc
        · exact e
      subst hkr
      obtain ⟨hX, hRv, hnx⟩ := hsc
      obtain ⟨ilt, nin⟩ := h.task k i hk (by rw [hκ]; rfl)
      have hM := met_set' (gs := gs) (j := k) (x := (parked g₃ csj shj).finishComm F.P csj shj kj v true) (y := g₂.finishComm F.P #[scase F.cb v z] sh 0 undef false) (by omega) (by rw [h.size]; omega) (by rw [h.size]; omega)
      obtain ⟨κ', T', Own', hF⟩ := h.back K hk1 hk (.inl hκ) hM hcb d' v X hX hRv (fun W1 q r => hrecv i v X ilt nin (fun x hx z0 => by have := h.own.apart k 0 x (hX x hx) z0; omega) W1 q r) hnx (fa := g₂.frame.fn) (pa := g₂.frame.place) (fb := (parked g₃ csj shj).frame.fn) (pb := (parked g₃ csj shj).frame.place)
      exact ⟨_, _, _, _, κ', T', Own', m', next, i :: ds, hr, .left _ _ (farm_count _ _ _ _), by rw [nil_ops']; exact hF⟩
  · obtain ⟨_, rfl⟩ := only hk'
    cases hsn
  · obtain ⟨_, rfl⟩ := only hk'
    cases hsn
theorem FarmAt.selects (K : F.Known) (hC : ∀ ds O g W, F.Close ds O g W → g.status = .running) (h : FarmAt F gs W t κ T Own (m + 1) next ds) (hκ : κ 0 = .mwalk) {g : Goroutine} (hg : gs[0]? = some g) (hst : MSel F (m + 1) next ds (Own 0) g W) (d : Nat) (sl : Option (Nat × Nat)) : FNext F (runT F.P (crowd gs (W.at d) sl) 0) t κ T (m + 1) := by
  obtain ⟨_, g₂, cs, sh, hstep, hsel⟩ := hst
  have hs' : stepG F.P (0 == 0) g (W.at d) = .comm g₂ cs true sh (W.at d) #[] := hstep d
  obtain ⟨sn, tn, hcn⟩ := h.cn
  have hcn' : (W.at d).heap[F.cn]? = some (.chan 0 #[] false sn sn tn) := hcn
  obtain ⟨sb, tb, hcb⟩ := h.cb
  have hcb' : (W.at d).heap[F.cb]? = some (.chan 0 #[] false sb sb tb) := hcb
  have hsel' := hsel
  obtain ⟨ks, kr, hc, hsend, hrecv⟩ := hsel'
  obtain ⟨hne, h1, h2, hsz, ⟨zr, hkr⟩, hks1, hks2⟩ := id hc
  have hfit : ∀ cc ∈ cs, Fits (W.at d) cc := fun cc hcc => by
    obtain ⟨k, hlt, e⟩ := Array.mem_iff_getElem.1 hcc
    have hk : cs[k]? = some cc := by rw [← e]; exact Array.getElem?_eq_getElem hlt
    rcases sel_at hc hk with e | e
    · by_cases hn : next < F.M
      · obtain ⟨z', hks⟩ := hks1 hn
        rw [e, hks] at hk
        cases hk
        exact .inr ⟨F.cn, false, sn, sn, tn, rfl, hcn', fun _ => rfl⟩
      · obtain ⟨cc', hks, hcn0⟩ := hks2 hn
        rw [e, hks] at hk
        cases hk
        exact .inl hcn0
    · rw [e, hkr] at hk
      cases hk
      exact .inr ⟨F.cb, false, sb, sb, tb, rfl, hcb', fun q => by cases q⟩
  have rel : RelyJ F.J (Own 0) F.Sh W (W.at d) := ⟨Rely.at _ _ _ _, h.j, K.jst W (W.at d) (fun _ _ => rfl) h.j⟩
  have memr : rcase F.cb zr ∈ cs := Array.mem_of_getElem? hkr
  rcases crowd_comm (sl := sl) hg hs' hfit with ⟨hr, hno⟩ | ⟨k', cc, c, closed, s, r, tm, v, j, kj, gj, csj, shj, cj, d', hk', hcc, hsv, hch, hij, hj, hjs, hjo, hjk, hjc, hjv, hr⟩ | ⟨k', cc, c, closed, s, r, tm, v, j, kj, gj, csj, shj, cj, d', hk', hcc, hsn, hch, hij, hj, hjs, hjo, hjk, hjc, hjv, hr⟩ | ⟨k', cc, c, s, r, tm, d', hk', hcc, hsn, hch, _, _⟩
  · refine ⟨_, _, _, _, upd κ 0 .mpark, T, Own, m + 1, next, ds, hr, .left _ _ (farm_park (by omega) rfl (by rw [hκ]; rfl)), ?_⟩
    rw [nil_ops]
    have hnb := recv_nil hcb' (hno _ memr)
    refine h.waits K (by omega) .mpark _ d (At.rely K (k := .mpark) ⟨g₂, cs, sh, m, rfl, rfl, hsel⟩ rel) (fun _ => rfl) (fun e => by omega) (by rw [hκ]; rfl) (by rw [hκ]; rfl) rfl (by rw [hκ]; rfl) fun _ => ⟨fun l i f hl q => ?_, fun hn l f hl q => ?_⟩
    · have l0 : l ≠ 0 := fun e => by rw [e, upd_same] at q; cases q
      rw [upd_ne _ _ l0] at q
      obtain ⟨gl, hgl, hal⟩ := h.at_ l hl
      rw [q] at hal
      obtain ⟨g3, v3, z3, sh3, X3, rfl, _⟩ := hal
      have := partner_is (gs := gs) (i := 0) (j := l) (k := 0) (c := F.cb) (send := true) l0 hgl rfl rfl rfl rfl rfl
      rw [hnb] at this
      cases this
    · have l0 : l ≠ 0 := fun e => by rw [e, upd_same] at q; cases q
      rw [upd_ne _ _ l0] at q
      obtain ⟨gl, hgl, hal⟩ := h.at_ l hl
      rw [q] at hal
      obtain ⟨g3, z3, sh3, rfl, _⟩ := hal
      obtain ⟨z', hks⟩ := hks1 hn
      have hnn := send_nil hcn' (hno _ (Array.mem_of_getElem? hks))
      have := partner_is (gs := gs) (i := 0) (j := l) (k := 0) (c := F.cn) (send := false) l0 hgl rfl rfl rfl rfl rfl
      rw [hnn] at this
      cases this
  · -- a number goes out
    have hks' : k' = ks ∧ next < F.M ∧ v = F.num next ∧ c = F.cn := by
      rcases sel_at hc hk' with e | e
      · by_cases hn : next < F.M
        · obtain ⟨z', hks⟩ := hks1 hn
          rw [e, hks] at hk'
          cases hk'
          cases hcc
          cases hsv
          exact ⟨e, hn, rfl, rfl⟩
        · obtain ⟨cc', hks, hcn0⟩ := hks2 hn
          rw [e, hks] at hk'
          cases hk'
          rw [hcn0] at hcc
          cases hcc
      · rw [e, hkr] at hk'
        cases hk'
        cases hsv
    obtain ⟨rfl, hn, rfl, rfl⟩ := hks'
    have e1 := hcn'.symm.trans hch
    cases e1
    obtain ⟨hjN, hof⟩ := h.offer hC hj hjs hjo hjk hjc
    rcases hof with ⟨f, g₃, z, hκj, rfl, rfl, rfl, _, _, hrc⟩ | ⟨_, _, _, _, _, _, _, _, _, _, hn', _⟩ | ⟨_, _, _, rfl, _⟩
    · have hfu := h.fuel j (by omega) hjN (by rw [hκj]; rfl)
      rw [hκj] at hfu
      obtain ⟨f', rfl⟩ : ∃ f', f = f' + 1 := ⟨f - 1, by have : F.M - next ≤ f := hfu; omega⟩
      have hM := met_set (gs := gs) (j := j) (x := g₂.finishComm F.P cs sh k' undef false) (y := (parked g₃ #[rcase F.cn z] shj).finishComm F.P #[rcase F.cn z] shj 0 (F.num next) true) hij (by rw [h.size]; omega) (by rw [h.size]; omega)
      obtain ⟨κ', T', hF⟩ := h.out K hn (by omega) hjN (.inr hκj) hM hcn d' (fun W1 q => hsend hn W1 q) (fun W1 q => hrc.2 f' rfl next hn W1 q) (fa := g₂.frame.fn) (pa := g₂.frame.place) (fb := (parked g₃ #[rcase F.cn z] shj).frame.fn) (pb := (parked g₃ #[rcase F.cn z] shj).frame.place)
      exact ⟨_, _, _, _, κ', T', Own, m, next + 1, ds, hr, .left _ _ (farm_count _ _ _ _), by rw [nil_ops']; exact hF⟩
    · rw [hjv] at hn'; cases hn'
    · exact absurd rfl hij
  · -- what was made comes back
    have hkr' : k' = kr ∧ c = F.cb := by
      rcases sel_at hc hk' with e | e
      · by_cases hn : next < F.M
        · obtain ⟨z', hks⟩ := hks1 hn
          rw [e, hks] at hk'
          cases hk'
          cases hsn
        · obtain ⟨cc', hks, hcn0⟩ := hks2 hn
          rw [e, hks] at hk'
          cases hk'
          rw [hcn0] at hcc
          cases hcc
      · rw [e, hkr] at hk'
        cases hk'
        cases hcc
        exact ⟨e, rfl⟩
    obtain ⟨rfl, rfl⟩ := hkr'
    have e1 := hcb'.symm.trans hch
    cases e1
    obtain ⟨hjN, hof⟩ := h.offer hC hj hjs hjo hjk hjc
    rcases hof with ⟨_, _, _, _, _, _, _, hn', _⟩ | ⟨i, f, g₃, v', z, X, hκj, rfl, rfl, rfl, hv', _, hsc⟩ | ⟨_, _, _, rfl, _⟩
    · rw [hjv] at hn'; cases hn'
    · rw [hjv] at hv'
      cases hv'
      obtain ⟨hX, hRv, hnx⟩ := hsc
      obtain ⟨ilt, nin⟩ := h.task j i hjN (by rw [hκj]; rfl)
      have hM := met_set (gs := gs) (j := j) (x := g₂.finishComm F.P cs sh k' v true) (y := (parked g₃ #[scase F.cb v z] shj).finishComm F.P #[scase F.cb v z] shj 0 undef false) hij (by rw [h.size]; omega) (by rw [h.size]; omega)
      obtain ⟨κ', T', Own', hF⟩ := h.back K (by omega) hjN (.inr hκj) hM hcb d' v X hX hRv (fun W1 q r => hrecv i v X ilt nin (fun x hx z0 => hij (h.own.apart j 0 x (hX x hx) z0)) W1 q r) (fun W1 q => hnx W1 q) (fa := (parked g₃ #[scase F.cb v z] shj).frame.fn) (pa := (parked g₃ #[scase F.cb v z] shj).frame.place) (fb := g₂.frame.fn) (pb := g₂.frame.place)
      exact ⟨_, _, _, _, κ', T', Own', m, next, i :: ds, hr, .left _ _ (farm_count _ _ _ _), by rw [nil_ops']; exact hF⟩
    · exact absurd rfl hij
  · have : c = F.cn ∨ c = F.cb := by
      rcases sel_at hc hk' with e | e
      · by_cases hn : next < F.M
        · obtain ⟨z', hks⟩ := hks1 hn
          rw [e, hks] at hk'
          cases hk'
          cases hcc
          exact .inl rfl
        · obtain ⟨cc', hks, hcn0⟩ := hks2 hn
          rw [e, hks] at hk'
          cases hk'
          rw [hcn0] at hcc
          cases hcc
      · rw [e, hkr] at hk'
        cases hk'
        cases hcc
        exact .inr rfl
    rcases this with rfl | rfl
    · rw [hcn'] at hch; cases hch
    · rw [hcb'] at hch; cases hch
theorem FarmAt.quits (K : F.Known) (hC : ∀ ds O g W, F.Close ds O g W → g.status = .running) (h : FarmAt F gs W t κ T Own m next ds) {k q : Nat} (hk : k < F.N + 1) (hκ : κ k = .quit q) {g : Goroutine} (hg : gs[k]? = some g) (hrun : g.status = .running) (d : Nat) (sl : Option (Nat × Nat)) : FNext F (runT F.P (crowd gs (W.at d) sl) k) t κ T m := by
  have hq := h.left k q g hk hκ hg
  obtain ⟨g0, hg0, ha⟩ := h.at_ k hk
  have : g0 = g := Option.some.inj (hg0.symm.trans hg)
  subst this
  rw [hκ] at ha
  obtain ⟨hT, _⟩ := ha
  have k1 : k ≠ 0 := fun e => by rw [e] at hκ; rcases h.zero with z | z <;> (rw [z] at hκ; cases hκ)
  have k0 : (k == 0) = false := by rw [beq_eq_false_iff_ne]; exact k1
  cases q with
  | zero => rw [hq.1] at hrun; cases hrun
  | succ q =>
    rcases hq with ⟨hf, _⟩ | ⟨_, g', es, hm, hst, hq'⟩
    · rw [hf] at hrun; cases hrun
    have hs : stepG F.P (k == 0) g0 (W.at d) = .go g' (W.at d) es := by rw [k0]; exact hst _
    have ops : ∀ op ∈ MemOp.ofEvents k g0.frame.fn g0.frame.place es, op.g = k ∧ op.act.touch? = none ∧ op.act.low W.heap.size := fun op hop => by
      obtain ⟨e, he, rfl⟩ := Go.Conc.mem_ofEvents hop
      exact ⟨rfl, touch_mute (hm e he), low_mute (hm e he) _⟩
    have Do : ∀ l, l ≠ k → Deaf (t ++ MemOp.ofEvents k g0.frame.fn g0.frame.place es) l = Deaf t l := fun l hl => Deaf_other t (fun e => hl e.symm) _ fun op hop => (ops op hop).1
    have Dk : Deaf (t ++ MemOp.ofEvents k g0.frame.fn g0.frame.place es) k = deafBehind (Deaf t k) es := Deaf_own t k _ _ es
    have up0 : ∀ l, (upd κ k (.quit q) l).task = (κ l).task ∧ (upd κ k (.quit q) l).quits = (κ l).quits ∧ (upd κ k (.quit q) l).fuel = (κ l).fuel ∧ (upd κ k (.quit q) l).up = (κ l).up := fun l => by
      by_cases e : l = k
      · rw [e, upd_same, hκ]; exact ⟨rfl, rfl, rfl, rfl⟩
      · rw [upd_ne _ _ e]; exact ⟨rfl, rfl, rfl, rfl⟩
    have cnt : FarmAt.count F.N (upd κ k (.quit q)) m = FarmAt.count F.N κ m := by
      unfold FarmAt.count
      congr 1
      exact Go.ConcN.sumTo_congr fun l _ => (up0 l).2.2.2
    have sub : LtN (F.N + 1) (upd T k (WT.chain q)) T := ⟨k, hk, by rw [upd_same, hT]; exact ⟨_, W, rfl, rfl⟩, fun j hj => upd_ne _ _ hj⟩
    refine ⟨_, _, sl, _, upd κ k (.quit q), upd T k (WT.chain q), Own, m, next, ds, runT_crowd_go hg hs, by rw [cnt]; exact .right _ sub, ?_⟩
    have jd : F.J (W.at d) := K.jst W (W.at d) (fun _ _ => rfl) h.j
    have cn' : ∃ s tm, (W.at d).heap[F.cn]? = some (.chan 0 #[] false s s tm) := h.cn
    have cb' : ∃ s tm, (W.at d).heap[F.cb]? = some (.chan 0 #[] false s s tm) := h.cb
    have gk : ∀ l, l < F.N + 1 → l ≠ k → ((gs.map (woken F.P g0 g' (W.at d))).setIfInBounds k g')[l]? = gs[l]? := fun l hl e => by
      obtain ⟨gi, hgi, ha⟩ := h.at_ l hl
      rw [get_mapset _ _ _ _ e, hgi]
      exact congrArg some (ha.again h.j hC cn' cb')
    have gkk : ((gs.map (woken F.P g0 g' (W.at d))).setIfInBounds k g')[k]? = some g' := get_mapset_same _ _ _ (by rw [h.size]; exact hk)
    exact { size := by simp [h.size]
            own := h.own.meet (fun op hop => (ops op hop).1) fun op hop => ⟨(ops op hop).2.2, fun a ha => by rw [(ops op hop).2.1] at ha; cases ha⟩
            told := h.told.mute (fun op hop _ e => by obtain ⟨ev, he, rfl⟩ := Go.Conc.mem_ofEvents hop; exact mute_norel (hm ev he) _ e) (fun op hop => by rw [(ops op hop).1]; exact hk) fun op hop => (ops op hop).2.1
            deaf := fun l hl z => by
              rw [(up0 l).2.1] at z
              have lk : l ≠ k := fun e => by rw [e, hκ] at z; cases z
              rw [Do l lk]; exact h.deaf l hl z
            left := fun l q' gl hl e hgl => by
              by_cases lk : l = k
              · subst lk
                rw [upd_same] at e
                cases e
                rw [gkk] at hgl
                cases hgl
                rw [Dk]
                exact hq'
              · rw [upd_ne _ _ lk] at e
                rw [gk l hl lk] at hgl
                rw [Do l lk]
                exact h.left l q' gl hl e hgl
            crew := fun hM => (h.crew hM).imp fun l z => ⟨z.1, z.2.1, by rw [(up0 l).2.1]; exact z.2.2⟩
            cn := cn', cb := cb'
            j := jd
            hold := K.hst W (W.at d) (fun _ _ _ _ => rfl) h.hold
            who := fun l hl => by rw [(up0 l).2.1]; exact h.who l hl
            nx := h.nx, nd := h.nd, dlt := h.dlt, m_is := h.m_is
            zero := by rw [upd_ne _ _ k1.symm]; exact h.zero
            oth := fun l hl => by
              by_cases lk : l = k
              · rw [lk, upd_same]; exact ⟨fun z => (by cases z), fun z => (by cases z)⟩
              · rw [upd_ne _ _ lk]; exact h.oth l hl
            at_ := fun l hl => by
              by_cases lk : l = k
              · subst lk
                refine ⟨g', gkk, ?_⟩
                rw [upd_same, upd_same]
                exact ⟨rfl, _, hq'⟩
              · obtain ⟨gi, hgi, ha⟩ := h.at_ l hl
                refine ⟨gi, (gk l hl lk).trans hgi, ?_⟩
                rw [upd_ne _ _ lk, upd_ne _ _ lk]
                exact ha.rely K ⟨Rely.at _ _ _ _, h.j, jd⟩
            fuel := fun l a b z => by rw [(up0 l).2.2.1]; rw [(up0 l).2.1] at z; exact h.fuel l a b z
            task := fun l i hl e => h.task l i hl ((up0 l).1 ▸ e)
            one := fun l l' i hl hl' e e' => h.one l l' i hl hl' ((up0 l).1 ▸ e) ((up0 l').1 ▸ e')
            all := fun i a b => by
              obtain ⟨l, hl, e⟩ := h.all i a b
              exact ⟨l, hl, (up0 l).1.trans e⟩
            idle := fun z => by
              rw [upd_ne _ _ k1.symm] at z
              obtain ⟨i1, i2⟩ := h.idle z
              refine ⟨fun l i f hl e => ?_, fun hn l f hl e => ?_⟩
              · by_cases lk : l = k
                · rw [lk, upd_same] at e; cases e
                · rw [upd_ne _ _ lk] at e; exact i1 l i f hl e
              · by_cases lk : l = k
                · rw [lk, upd_same] at e; cases e
                · rw [upd_ne _ _ lk] at e; exact i2 hn l f hl e }
theorem FarmAt.step (K : F.Known) (hC : ∀ ds O g W, F.Close ds O g W → g.status = .running) (h : FarmAt F gs W t κ T Own m next ds) (ne : ¬ (m = 0 ∧ T 0 = .stop)) (sl : Option (Nat × Nat)) : FNext F (stepT F.P (crowd gs W sl)) t κ T m := by
  obtain ⟨aw, rn⟩ := h.runs hC
  obtain ⟨i, g, d, sl', hg, hrun, hs⟩ := crowd_pick (P := F.P) (w := W) (sl := sl) aw rn
  rw [hs]
  have hi : i < F.N + 1 := by rw [← h.size]; exact (Array.getElem?_eq_some_iff.1 hg).1
  obtain ⟨g', hg', ha⟩ := h.at_ i hi
  have : g' = g := Option.some.inj (hg'.symm.trans hg)
  subst this
  have own : ∀ {S : Stp} {f : World → WT}, T i = .step f → WalksJ F.P (i == 0) F.J F.Sh S (T i) (Own i) g' W → (∀ T' O' g' W', WalksJ F.P (i == 0) F.J F.Sh S T' O' g' W' → At F m next ds T' O' g' W' (κ i)) → ¬ (κ i).quits = true → FNext F (runT F.P (crowd gs (W.at d) sl') i) t κ T m := fun hT hw hb hq => by
    obtain ⟨gs', W', ops, T', hr, hlt, Own', hF⟩ := h.ownStep K hC hi hg hT hw (by simpa using hq) hb d sl'
    exact ⟨gs', W', sl', ops, κ, T', Own', m, next, ds, hr, .right _ hlt, hF⟩
  have i0 : 1 ≤ i → (i == 0) = false := fun q => by rw [beq_eq_false_iff_ne]; omega
  have st := ha.status h.j hC
  have oth := h.oth i
  have zero := h.zero
  cases hκ : κ i with
  | quit q => exact h.quits K hC hi hκ hg hrun d sl'
  | parkR f => rw [hκ] at st; rw [st.2.1 rfl] at hrun; cases hrun
  | parkS j f => rw [hκ] at st; rw [st.2.1 rfl] at hrun; cases hrun
  | mpark => rw [hκ] at st; rw [st.2.1 rfl] at hrun; cases hrun
  | walkR f =>
    have i1 : 1 ≤ i := by
      rcases Nat.eq_zero_or_pos i with e | e
      · rw [e] at hκ; rw [hκ] at zero; rcases zero with q | q <;> cases q
      · exact e
    rw [hκ] at ha
    cases hT : T i with
    | stop =>
      rw [hT] at ha
      exact h.asks K hC i1 hi hκ hg (ha W (RelyJ.refl _ _ h.j)) d sl'
    | step f' => exact own hT (by rw [i0 i1]; exact ha) (fun T' O' g' W' q => by rw [hκ]; rw [i0 i1] at q; exact q) (by rw [hκ]; exact Bool.false_ne_true)
  | walkS j f =>
    have i1 : 1 ≤ i := by
      rcases Nat.eq_zero_or_pos i with e | e
      · rw [e] at hκ; rw [hκ] at zero; rcases zero with q | q <;> cases q
      · exact e
    rw [hκ] at ha
    cases hT : T i with
    | stop =>
      rw [hT] at ha
      exact h.gives K hC i1 hi hκ hg (ha W (RelyJ.refl _ _ h.j)) d sl'
    | step f' => exact own hT (by rw [i0 i1]; exact ha) (fun T' O' g' W' q => by rw [hκ]; rw [i0 i1] at q; exact q) (by rw [hκ]; exact Bool.false_ne_true)
  | mwalk =>
    have e0 : i = 0 := by
      rcases Nat.eq_zero_or_pos i with e | e
      · exact e
      · exact absurd hκ (oth e).1
    subst e0
    rw [hκ] at ha
    cases hT : T 0 with
    | stop =>
      rw [hT] at ha
      cases m with
      | zero => exact absurd ⟨rfl, hT⟩ ne
      | succ m => exact h.selects K hC hκ hg (ha W (RelyJ.refl _ _ h.j)) d sl'
    | step f' => exact own hT ha (fun T' O' g' W' q => by rw [hκ]; exact q) (by rw [hκ]; exact Bool.false_ne_true)
end step
end Go.Proofs.YtmbfdhekplnoaaaDoor

namespace Go.Proofs.YtmbfdhekplnoaaaDoor
open Go Go.Conc
open Go.ConcN (sumTo upd sumTo_upd upd_ne upd_same)
open Go.ConcR (KK WgAt stA smA rd wr mk)

def QWalk (P : Program) (J : World → Prop) (Sh : Nat → Prop) (S : Stp) : WT → (Nat → Prop) → Goroutine → World → Prop
  | .stop, O, g, W => ∀ W1, RelyJ J O Sh W W1 → S O g W1
  | .step f, O, g, W => g.status = .running ∧ ∀ W1, RelyJ J O Sh W W1 → ∃ g', stepG P false g W1 = .go g' W1 #[] ∧ QWalk P J Sh S (f W1) O g' W1
theorem QWalk.rely {P : Program} {J : World → Prop} {Sh : Nat → Prop} {S : Stp} {O : Nat → Prop} {g : Goroutine} {W W1 : World} : ∀ {T : WT}, QWalk P J Sh S T O g W → RelyJ J O Sh W W1 → QWalk P J Sh S T O g W1
  | .stop, h, hr => fun W2 q => h W2 (hr.trans q)
  | .step _, h, hr => ⟨h.1, fun W2 q => h.2 W2 (hr.trans q)⟩
theorem QWalk.status {P : Program} {J : World → Prop} {Sh : Nat → Prop} {S : Stp} {O : Nat → Prop} {g : Goroutine} {W : World} (hj : J W) (hS : ∀ O g W, S O g W → g.status = .running) : ∀ {T : WT}, QWalk P J Sh S T O g W → g.status = .running
  | .stop, h => hS _ _ _ (h W (RelyJ.refl _ _ hj))
  | .step _, h => h.1
theorem sumTo_mono {f f' : Nat → Nat} : ∀ {n : Nat}, (∀ i, i < n → f' i ≤ f i) → sumTo n f' ≤ sumTo n f
  | 0, _ => Nat.le_refl _
  | n + 1, h => by
    have a := sumTo_mono (n := n) fun i hi => h i (by omega)
    have b := h n (by omega)
    simp only [sumTo]
    omega
def Farm.crew (F : Farm) : Nat := sumTo (F.N + 1) fun k => if k = 0 then 0 else if F.Q k then 0 else 1
structure Yard where
  F : Farm
  ty : TypeId
  Wg : Nat
  Anch : Stp
  After : Stp
section yard
variable (Y : Yard)
def Yard.At (W : World) (st sm : Int) : Prop := WgAt Y.ty Y.Wg W st sm
def Yard.wk (S : Stp) (O : Nat → Prop) (g : Goroutine) (W : World) : Prop := ∃ T, QWalk Y.F.P Y.F.J Y.F.Sh S T O g W
def Yard.mn (S : Stp) (O : Nat → Prop) (g : Goroutine) (W : World) : Prop := GoesJ Y.F.P true Y.F.J Y.F.Sh S O g W
/-! ### a worker, from its end backwards -/
def YD4 : Stp := fun _ g W => g.status = .running ∧ mayWake Y.F.P g = true ∧ ∀ d, Y.At W 0 0 → ∃ g', stepG Y.F.P false g (W.at d) = .go g' ((W.at d).setCell (smA Y.Wg) (.int .u32 1)) (semEvents (smA Y.Wg)) ∧ ∃ q, QuitsD Y.F.P q 1 g'
def YD3 : Stp := fun O g W => g.status = .running ∧ ∀ d, Y.At W 1 0 → ∃ g', stepG Y.F.P false g (W.at d) = .go g' ((W.at d).setCell (stA Y.Wg) (.int .u64 0)) #[wr (stA Y.Wg)] ∧ Y.wk (YD4 Y) O g' ((W.at d).setCell (stA Y.Wg) (.int .u64 0))
def YD2 : Stp := fun O g W => g.status = .running ∧ ∀ d, Y.At W 1 0 → ∃ g', stepG Y.F.P false g (W.at d) = .go g' (W.at d) #[rd (stA Y.Wg)] ∧ Y.wk (YD3 Y) O g' (W.at d)
def YD1 : Stp := fun O g W => g.status = .running ∧ ∀ d (v wt : Nat), wt ≤ 1 → v < 2147483647 → Y.At W ((v + 1 : Nat) * KK + wt) 0 →
  ∃ g', stepG Y.F.P false g (W.at d) = .go g' ((W.at d).setCell (stA Y.Wg) (.int .u64 (v * KK + wt))) #[rd (stA Y.Wg), wr (stA Y.Wg)] ∧
    ((v = 0 ∧ wt = 1) → Y.wk (YD2 Y) O g' ((W.at d).setCell (stA Y.Wg) (.int .u64 (v * KK + wt)))) ∧ (¬ (v = 0 ∧ wt = 1) → ∃ q, QuitsD Y.F.P q 1 g')
def YK1 : Stp := fun O g W => g.status = .running ∧ ∀ d, ∃ g', stepG Y.F.P false g (W.at d) = .go g' (W.at d) #[mk .disable] ∧ Y.wk (YD1 Y) O g' (W.at d)
def YR0 : Stp := fun O g W => g.status = .running ∧ ∀ d, ∃ g', stepG Y.F.P false g (W.at d) = .go g' (W.at d) #[mk (.releaseMerge (stA Y.Wg))] ∧ Y.wk (YK1 Y) O g' (W.at d)
/-! ### the starter -/
def YAcq : Stp := fun O g W => g.status = .running ∧ ∀ d, ∃ g', stepG Y.F.P true g (W.at d) = .go g' (W.at d) #[mk (.acquire (stA Y.Wg))] ∧ Y.mn Y.After O g' (W.at d)
def YKe : Stp := fun O g W => g.status = .running ∧ ∀ d, ∃ g', stepG Y.F.P true g (W.at d) = .go g' (W.at d) #[mk .enable] ∧ Y.mn (YAcq Y) O g' (W.at d)
def YW4 : Stp := fun O g W => g.status = .running ∧ ∀ d, Y.At W 0 0 → ∃ g', stepG Y.F.P true g (W.at d) = .go g' (W.at d) #[rd (stA Y.Wg)] ∧ Y.mn (YKe Y) O g' (W.at d)
def YW3 : Stp := fun O g W => g.status = .running ∧ g.offers = none ∧ (∀ W1, RelyJ Y.F.J O Y.F.Sh W W1 → (∃ st, Y.At W1 st 0) → stepG Y.F.P true g W1 = .go { g with status := .blocked } W1 #[]) ∧
  ∀ W1, RelyJ Y.F.J O Y.F.Sh W W1 → Y.At W1 0 1 → ∃ g', stepG Y.F.P true g W1 = .go g' (W1.setCell (smA Y.Wg) (.int .u32 0)) (semEvents (smA Y.Wg)) ∧ Y.mn (YW4 Y) O g' (W1.setCell (smA Y.Wg) (.int .u32 0))
def YWs : Stp := fun O g W => g.status = .running ∧ ∀ d, ∃ g', stepG Y.F.P true g (W.at d) = .go g' (W.at d) #[mk (.write (smA Y.Wg))] ∧ Y.mn (YW3 Y) O g' (W.at d)
def YW2 (vs : Nat) : Stp := fun O g W => g.status = .running ∧ ∀ d (v : Nat), v < 2147483648 → Y.At W (v * KK) 0 →
  (v = vs → ∃ g', stepG Y.F.P true g (W.at d) = .go g' ((W.at d).setCell (stA Y.Wg) (.int .u64 (v * KK + 1))) #[rd (stA Y.Wg), wr (stA Y.Wg)] ∧ Y.mn (YWs Y) O g' ((W.at d).setCell (stA Y.Wg) (.int .u64 (v * KK + 1)))) ∧
  (v ≠ vs → ∃ g', stepG Y.F.P true g (W.at d) = .go g' (W.at d) #[rd (stA Y.Wg)] ∧ Y.mn Y.Anch O g' (W.at d))
def YW1 : Stp := fun O g W => g.status = .running ∧ ∀ d (v : Nat), v < 2147483648 → Y.At W (v * KK) 0 → ∃ g', stepG Y.F.P true g (W.at d) = .go g' (W.at d) #[rd (stA Y.Wg)] ∧ (v = 0 → Y.mn (YKe Y) O g' (W.at d)) ∧ (v ≠ 0 → Y.mn (YW2 Y v) O g' (W.at d))
def YKd : Stp := fun O g W => g.status = .running ∧ ∀ d, ∃ g', stepG Y.F.P true g (W.at d) = .go g' (W.at d) #[mk .disable] ∧ Y.mn Y.Anch O g' (W.at d)
def YClose : Stp := fun O g W => g.status = .running ∧ mayWake Y.F.P g = true ∧ ∀ d s tm, W.heap[Y.F.cn]? = some (.chan 0 #[] false s s tm) →
  ∃ g', stepG Y.F.P true g (W.at d) = .go g' ((W.at d).setChan Y.F.cn 0 #[] true s s tm) #[⟨.obj Y.F.cn, false, true⟩, ⟨.obj Y.F.cn, true, true⟩] ∧ g'.status = .running ∧ Y.mn (YKd Y) O g' ((W.at d).setChan Y.F.cn 0 #[] true s s tm)
structure Yard.Known : Prop where
  f : Y.F.Known
  done : ∀ O g W, Y.F.Done O g W → YR0 Y O g W
  close : ∀ ds O g W, Y.F.Close ds O g W → YClose Y O g W
  anch : ∀ O g W, Y.Anch O g W → Y.mn (YW1 Y) O g W
  aft : ∀ O g W, Y.After O g W → g.status = .running
  syw : Y.F.Sy Y.Wg
  ga : Y.F.ga = stA Y.Wg
  wn : Y.Wg ≠ Y.F.cn
  wb : Y.Wg ≠ Y.F.cb
  few : Y.F.crew < 2147483647
  /-- what becomes of the group, and that the numbers are closed, J bears -/
  jg : ∀ W W', (∀ b, Y.F.Sy b → b ≠ Y.Wg → W'.heap[b]? = W.heap[b]?) → (∃ st sm, Y.At W' st sm) → Y.F.J W → Y.F.J W'
  jc : ∀ W s tm, W.heap[Y.F.cn]? = some (.chan 0 #[] false s s tm) → Y.F.J W → Y.F.J (W.setChan Y.F.cn 0 #[] true s s tm)
/-! ### where each stands -/
inductive YTag
  | wr (f : Nat) | pk (f : Nat) | tr (f : Nat) | d0 | k1 | d1 | d2 | d3 | d4 | quit (q : Nat)
  | cl | kd | an | w2 (vs : Nat) | ws | w3 | blk | w4 | ke | acq | ret
def YTag.main : YTag → Bool
  | .cl | .kd | .an | .w2 _ | .ws | .w3 | .blk | .w4 | .ke | .acq | .ret => true
  | _ => false
def YTag.quits : YTag → Bool
  | .quit _ => true
  | _ => false
def YTag.told : YTag → Bool
  | .k1 | .d1 | .d2 | .d3 | .d4 | .quit _ => true
  | _ => false
def YTag.cnt : YTag → Nat
  | .wr _ | .pk _ | .tr _ | .d0 | .k1 | .d1 => 1
  | _ => 0
def YTag.deaf : YTag → Nat
  | .d1 | .d2 | .d3 | .d4 | .an | .w2 _ | .ws | .w3 | .blk | .w4 | .ke => 1
  | _ => 0
def YTag.stage : YTag → Nat
  | .wr _ => 10 | .pk _ => 9 | .tr _ => 8 | .d0 => 7 | .k1 => 6 | .d1 => 5 | .d2 => 4 | .d3 => 3 | .d4 => 2
  | _ => 0
def YTag.last : YTag → Bool
  | .d2 | .d3 | .d4 => true
  | _ => false
def YTag.opn : YTag → Bool
  | .cl | .kd | .an | .w2 _ => true
  | _ => false
def YTag.reg : YTag → Bool
  | .ws | .w3 | .blk => true
  | _ => false
def YTag.fin : YTag → Bool
  | .w4 | .ke | .acq | .ret => true
  | _ => false
def YAt (T : WT) (O : Nat → Prop) (g : Goroutine) (W : World) : YTag → Prop
  | .wr f => WalksJ Y.F.P false Y.F.J Y.F.Sh (KRecv Y.F f) T O g W
  | .pk f => ∃ g₂ z sh, g = parked g₂ #[rcase Y.F.cn z] sh ∧ RecvC Y.F f O g₂ z sh W
  | .tr f => ∃ g₂ z sh, g = { parked g₂ #[rcase Y.F.cn z] sh with status := .running } ∧ RecvC Y.F f O g₂ z sh W
  | .d0 => WalksJ Y.F.P false Y.F.J Y.F.Sh (YR0 Y) T O g W
  | .k1 => QWalk Y.F.P Y.F.J Y.F.Sh (YK1 Y) T O g W
  | .d1 => QWalk Y.F.P Y.F.J Y.F.Sh (YD1 Y) T O g W
  | .d2 => QWalk Y.F.P Y.F.J Y.F.Sh (YD2 Y) T O g W
  | .d3 => QWalk Y.F.P Y.F.J Y.F.Sh (YD3 Y) T O g W
  | .d4 => QWalk Y.F.P Y.F.J Y.F.Sh (YD4 Y) T O g W
  | .quit q => T = WT.chain q ∧ ∃ d, QuitsD Y.F.P q d g
  | .cl => WalksJ Y.F.P true Y.F.J Y.F.Sh (YClose Y) T O g W
  | .kd => WalksJ Y.F.P true Y.F.J Y.F.Sh (YKd Y) T O g W
  | .an => WalksJ Y.F.P true Y.F.J Y.F.Sh (YW1 Y) T O g W
  | .w2 vs => WalksJ Y.F.P true Y.F.J Y.F.Sh (YW2 Y vs) T O g W
  | .ws => WalksJ Y.F.P true Y.F.J Y.F.Sh (YWs Y) T O g W
  | .w3 => WalksJ Y.F.P true Y.F.J Y.F.Sh (YW3 Y) T O g W
  | .blk => T = .stop ∧ ∃ g', g = { g' with status := .blocked } ∧ YW3 Y O g' W
  | .w4 => WalksJ Y.F.P true Y.F.J Y.F.Sh (YW4 Y) T O g W
  | .ke => WalksJ Y.F.P true Y.F.J Y.F.Sh (YKe Y) T O g W
  | .acq => WalksJ Y.F.P true Y.F.J Y.F.Sh (YAcq Y) T O g W
  | .ret => WalksJ Y.F.P true Y.F.J Y.F.Sh Y.After T O g W
variable {Y}
theorem YW3.rely {O : Nat → Prop} {g : Goroutine} {W W1 : World} (h : YW3 Y O g W) (hr : RelyJ Y.F.J O Y.F.Sh W W1) : YW3 Y O g W1 := ⟨h.1, h.2.1, fun W2 q => h.2.2.1 W2 (hr.trans q), fun W2 q => h.2.2.2 W2 (hr.trans q)⟩
theorem RecvC.rely {F : Farm} {f : Nat} {O : Nat → Prop} {g₂ : Goroutine} {z : Value} {sh : CommShape} {W W1 : World} (h : RecvC F f O g₂ z sh W) (hr : RelyJ F.J O F.Sh W W1) : RecvC F f O g₂ z sh W1 := ⟨⟨h.1.1, fun W2 q => h.1.2 W2 (hr.trans q)⟩, fun f' e i hi W2 q => h.2 f' e i hi W2 (hr.trans q)⟩
theorem YAt.rely {T : WT} {O : Nat → Prop} {g : Goroutine} {W W1 : World} {k : YTag} (h : YAt Y T O g W k) (hr : RelyJ Y.F.J O Y.F.Sh W W1) : YAt Y T O g W1 k := by
  cases k with
  | pk f => obtain ⟨g₂, z, sh, e, q⟩ := h; exact ⟨g₂, z, sh, e, q.rely hr⟩
  | tr f => obtain ⟨g₂, z, sh, e, q⟩ := h; exact ⟨g₂, z, sh, e, q.rely hr⟩
  | quit q => exact h
  | blk => obtain ⟨e, g', e', q⟩ := h; exact ⟨e, g', e', q.rely hr⟩
  | k1 | d1 | d2 | d3 | d4 => exact QWalk.rely h hr
  | _ => exact WalksJ.rely h hr
theorem GoesJ.bind {P : Program} {main : Bool} {J : World → Prop} {Sh : Nat → Prop} {S1 S2 : Stp} (k : ∀ O g W, S1 O g W → GoesJ P main J Sh S2 O g W) : ∀ {T : WT} {O : Nat → Prop} {g : Goroutine} {W : World}, WalksJ P main J Sh S1 T O g W → GoesJ P main J Sh S2 O g W
  | .stop, _, _, W, h => by
    by_cases hj : J W
    · exact k _ _ _ (h W (RelyJ.refl _ _ hj))
    · exact ⟨.stop, fun W1 q => absurd q.j0 hj⟩
  | .step f, O, g, W, h => by
    have key : ∀ W1, ∃ T : WT, RelyJ J O Sh W W1 → ∃ O' g' W' es, stepG P main g W1 = .go g' W' es ∧ Guar O O' Sh W1 W' es ∧ WalksJ P main J Sh S2 T O' g' W' := fun W1 => by
      by_cases q : RelyJ J O Sh W W1
      · obtain ⟨O', g', W', es, h1, h2, h3⟩ := h.2 W1 q
        obtain ⟨T, hT⟩ := GoesJ.bind k h3
        exact ⟨T, fun _ => ⟨O', g', W', es, h1, h2, hT⟩⟩
      · exact ⟨.stop, fun z => absurd z q⟩
    exact ⟨.step fun W1 => Classical.choose (key W1), h.1, fun W1 q => Classical.choose_spec (key W1) q⟩
theorem YAt.status (K : Y.Known) {T : WT} {O : Nat → Prop} {g : Goroutine} {W : World} (hj : Y.F.J W) {k : YTag} (h : YAt Y T O g W k) : (∃ f, k = .pk f) ∨ k = .blk ∨ (∃ q, k = .quit q) ∨ g.status = .running := by
  have walk : ∀ {main : Bool} {S : Stp}, (∀ O g W, S O g W → g.status = .running) → WalksJ Y.F.P main Y.F.J Y.F.Sh S T O g W → g.status = .running := by
    intro main S hs hw
    cases T with
    | stop => exact hs _ _ _ (hw W (RelyJ.refl _ _ hj))
    | step f => exact hw.1
  cases k with
  | pk f => exact .inl ⟨f, rfl⟩
  | blk => exact .inr (.inl rfl)
  | quit q => exact .inr (.inr (.inl ⟨q, rfl⟩))
  | tr f => obtain ⟨g₂, z, sh, rfl, _⟩ := h; exact .inr (.inr (.inr rfl))
  | wr f => exact .inr (.inr (.inr (walk (fun O g W q => (KRecv.iff.1 q).1) h)))
  | ret => exact .inr (.inr (.inr (walk K.aft h)))
  | k1 | d1 | d2 | d3 | d4 => exact .inr (.inr (.inr (QWalk.status hj (fun O g W q => q.1) h)))
  | _ => exact .inr (.inr (.inr (walk (fun O g W q => q.1) h)))
end yard
end Go.Proofs.YtmbfdhekplnoaaaDoor
