/-
  A GOROUTINE AT A COMMUNICATION among any number of others, over channels without room: it waits; or it meets one of those who wait, at one of its cases, whichever the tape picks; or a channel that it receives from is closed.
-/
import Derived.Conc.CrowdSel
namespace Go.Proofs.YtmbfdhekplnoaaaDoor
open Go Go.Conc

theorem at_at (w : World) (d e : Nat) : (w.at d).at e = w.at e := rfl
theorem choose_select (P : Program) (w : World) (n : Nat) (hn : 0 < n) : ∃ b d, b < n ∧ (choose (.select n)).run P w = .ok b (w.at d) := by
  by_cases hf : n ≤ 1
  · exact ⟨0, w.drawn, hn, by simp [choose, Sem.run, Question.forced, hf, World.at]⟩
  · exact ⟨_, w.drawn + 1, Nat.mod_lt (w.tape w.drawn (.select n)) hn, by simp [choose, Sem.run, Question.forced, Question.cut, hf, World.at]⟩
theorem choose_extern (P : Program) (w : World) (s : String) (n : Nat) (hn : 0 < n) : ∃ b d, b < n ∧ (choose (.extern s n)).run P w = .ok b (w.at d) := by
  by_cases hf : n = 1
  · exact ⟨0, w.drawn, hn, by simp [choose, Sem.run, Question.forced, hf, World.at]⟩
  · exact ⟨_, w.drawn + 1, Nat.mod_lt (w.tape w.drawn (.extern s n)) hn, by simp [choose, Sem.run, Question.forced, Question.cut, hf, World.at, show n ≠ 0 by omega]⟩

theorem partner_of {gs : Array Goroutine} {i j k c : Nat} {send : Bool} (h : (j, k) ∈ partners (gs.setIfInBounds i ph) c send) :
    ∃ gj cs sh cc, j ≠ i ∧ gs[j]? = some gj ∧ gj.status = .blocked ∧ gj.offers = some (cs, sh) ∧ cs[k]? = some cc ∧ cc.chan = .chan (some c) ∧ cc.send.isSome = send := by
  obtain ⟨g, hg, hk⟩ := mem_partners.1 h
  rcases getElem?_stand gs i j g hg with ⟨_, rfl⟩ | ⟨hij, hg'⟩
  · rw [offersAt_ph] at hk; cases hk
  · unfold offersAt at hk
    split at hk
    · rename_i cs sh hs ho
      simp only [List.mem_map, List.mem_filter, Bool.and_eq_true, beq_iff_eq, Prod.exists, exists_eq_right] at hk
      obtain ⟨cc, hm, hsend, hch⟩ := hk
      refine ⟨g, cs, sh, cc, hij, hg', hs, ho, mem_of_zipIdx hm, ?_, hsend⟩
      split at hch
      · rename_i r' e
        rw [e, of_decide_eq_true hch]
      · cases hch
    · cases hk
theorem partner_is {gs : Array Goroutine} {i j k c : Nat} {send : Bool} {gj : Goroutine} {cs : Array CommCase} {sh : CommShape} {cc : CommCase} (hij : j ≠ i) (hj : gs[j]? = some gj) (hs : gj.status = .blocked) (ho : gj.offers = some (cs, sh)) (hk : cs[k]? = some cc) (hc : cc.chan = .chan (some c)) (hb : cc.send.isSome = send) :
    (j, k) ∈ partners (gs.setIfInBounds i ph) c send := by
  refine mem_partners.2 ⟨gj, stand_get hij hj, ?_⟩
  unfold offersAt
  rw [hs, ho]
  simp only [List.mem_map, List.mem_filter, Bool.and_eq_true, beq_iff_eq, Prod.exists, exists_eq_right]
  exact ⟨cc, by rw [Array.mem_toList_iff]; exact Array.mem_zipIdx_iff_getElem?.2 (by simpa using hk), hb, by rw [hc]; simp⟩
section meet
variable {P : Program} {gs : Array Goroutine} {w w₁ : World} {sl : Option (Nat × Nat)} {i : Nat} {g g₂ : Goroutine} {es : Array Event} {cases : Array CommCase} {shape : CommShape}
def Fits (w : World) (cc : CommCase) : Prop := cc.chan = .chan none ∨ ∃ c closed s r tm, cc.chan = .chan (some c) ∧ w.heap[c]? = some (.chan 0 #[] closed s r tm) ∧ (cc.send.isSome = true → closed = false)
theorem Fits.made {cc : CommCase} (h : Fits w cc) : illMade w cc = false := by
  rcases h with h | ⟨c, closed, s, r, tm, h, hc, _⟩
  · simp [illMade, h]
  · simp [illMade, h, hc]
theorem Fits.way {cc : CommCase} (h : Fits w cc) {gs : Array Goroutine} {x : Way} (hx : x ∈ ways w gs cc) :
    ∃ c closed s r tm, cc.chan = .chan (some c) ∧ w.heap[c]? = some (.chan 0 #[] closed s r tm) ∧ (cc.send.isSome = true → closed = false) ∧
      ((∃ j k, x = .partner j k ∧ (j, k) ∈ partners gs c (!cc.send.isSome)) ∨ (x = .closed ∧ closed = true ∧ cc.send = none ∧ partners gs c true = [])) := by
  rcases h with h | ⟨c, closed, s, r, tm, h, hc, hs⟩
  · simp [ways, h] at hx
  · refine ⟨c, closed, s, r, tm, h, hc, hs, ?_⟩
    unfold ways at hx
    rw [h] at hx
    simp only [hc] at hx
    cases hv : cc.send with
    | some v =>
      rw [hv] at hx hs
      obtain rfl : closed = false := hs rfl
      simp only [Bool.false_eq_true, if_false] at hx
      rcases hp : partners gs c false with _ | ⟨p, ps⟩
      · simp [hp] at hx
      · rw [hp] at hx
        obtain ⟨⟨j, k⟩, hm, rfl⟩ := List.mem_map.1 hx
        exact .inl ⟨j, k, rfl, by rw [show (!(some v).isSome) = false from rfl, hp]; exact hm⟩
    | none =>
      rw [hv] at hx
      simp only [List.size_toArray, List.length_nil, Nat.lt_irrefl, gt_iff_lt, if_false] at hx
      rcases hp : partners gs c true with _ | ⟨p, ps⟩
      · rw [hp] at hx
        cases closed with
        | true => simp at hx; exact .inr ⟨hx, rfl, rfl, rfl⟩
        | false => simp at hx
      · rw [hp] at hx
        obtain ⟨⟨j, k⟩, hm, rfl⟩ := List.mem_map.1 hx
        exact .inl ⟨j, k, rfl, by rw [show (!(none : Option Value).isSome) = true from rfl, hp]; exact hm⟩
def metOps (c s r a b : Nat) (fa : FuncId) (pa : String) (fb : FuncId) (pb : String) : Array MemOp :=
  #[{ g := a, fn := fa, pos := pa, act := .send c s }, { g := b, fn := fb, pos := pb, act := .recv c r 0 }, { g := a, fn := fa, pos := pa, act := .sendDone c s }, { g := b, fn := fb, pos := pb, act := .recvDone c r }]
set_option maxHeartbeats 1000000 in
theorem crowd_comm (hi : gs[i]? = some g) (h : stepG P (i == 0) g w = .comm g₂ cases true shape w₁ es) (hf : ∀ cc ∈ cases, Fits w₁ cc) :
    (runT P (crowd gs w sl) i = (.next (crowd (gs.setIfInBounds i (parked g₂ cases shape)) w₁ sl), MemOp.ofEvents i g.frame.fn g.frame.place es) ∧ ∀ cc ∈ cases, ways w₁ (gs.setIfInBounds i ph) cc = []) ∨
    (∃ (k : Nat) (cc : CommCase) (c : Nat) (closed : Bool) (s r : Nat) (tm : Bool) (v : Value) (j kj : Nat) (gj : Goroutine) (csj : Array CommCase) (shj : CommShape) (cj : CommCase) (d : Nat), cases[k]? = some cc ∧ cc.chan = .chan (some c) ∧ cc.send = some v ∧ w₁.heap[c]? = some (.chan 0 #[] closed s r tm) ∧
      j ≠ i ∧ gs[j]? = some gj ∧ gj.status = .blocked ∧ gj.offers = some (csj, shj) ∧ csj[kj]? = some cj ∧ cj.chan = .chan (some c) ∧ cj.send = none ∧
      runT P (crowd gs w sl) i = (.next (crowd ((gs.setIfInBounds j (gj.finishComm P csj shj kj v true)).setIfInBounds i (g₂.finishComm P cases shape k undef false)) ((w₁.at d).setChan c 0 #[] closed (s + 1) (r + 1) tm) sl),
        MemOp.ofEvents i g.frame.fn g.frame.place es ++ metOps c s r i j g₂.frame.fn g₂.frame.place gj.frame.fn gj.frame.place)) ∨
    (∃ (k : Nat) (cc : CommCase) (c : Nat) (closed : Bool) (s r : Nat) (tm : Bool) (v : Value) (j kj : Nat) (gj : Goroutine) (csj : Array CommCase) (shj : CommShape) (cj : CommCase) (d : Nat), cases[k]? = some cc ∧ cc.chan = .chan (some c) ∧ cc.send = none ∧ w₁.heap[c]? = some (.chan 0 #[] closed s r tm) ∧
      j ≠ i ∧ gs[j]? = some gj ∧ gj.status = .blocked ∧ gj.offers = some (csj, shj) ∧ csj[kj]? = some cj ∧ cj.chan = .chan (some c) ∧ cj.send = some v ∧
      runT P (crowd gs w sl) i = (.next (crowd ((gs.setIfInBounds j (gj.finishComm P csj shj kj undef false)).setIfInBounds i (g₂.finishComm P cases shape k v true)) ((w₁.at d).setChan c 0 #[] closed (s + 1) (r + 1) tm) sl),
        MemOp.ofEvents i g.frame.fn g.frame.place es ++ metOps c s r j i gj.frame.fn gj.frame.place g₂.frame.fn g₂.frame.place)) ∨
    (∃ (k : Nat) (cc : CommCase) (c s r : Nat) (tm : Bool) (d : Nat), cases[k]? = some cc ∧ cc.chan = .chan (some c) ∧ cc.send = none ∧ w₁.heap[c]? = some (.chan 0 #[] true s r tm) ∧ partners (gs.setIfInBounds i ph) c true = [] ∧
      runT P (crowd gs w sl) i = (.next (crowd (gs.setIfInBounds i (g₂.finishComm P cases shape k cc.zero false)) (w₁.at d) sl),
        MemOp.ofEvents i g.frame.fn g.frame.place es ++ #[{ g := i, fn := g₂.frame.fn, pos := g₂.frame.place, act := .recvClosed c }])) := by
  by_cases hno : ∀ cc ∈ cases, ways w₁ (gs.setIfInBounds i ph) cc = []
  · exact .inl ⟨crowd_waits hi h fun cc hcc => ⟨(hf cc hcc).made, hno cc hcc⟩, hno⟩
  refine .inr ?_
  -- which are ready
  generalize hR : ((cases.zipIdx.toList.map fun (c, k) => (k, c, ways w₁ (gs.setIfInBounds i ph) c)).filter fun (_, _, ws) => !ws.isEmpty) = R
  have hRne : R ≠ [] := by
    intro e
    refine hno fun cc hcc => ?_
    obtain ⟨m, hlt, em⟩ := Array.mem_iff_getElem.1 hcc
    have hm : cases[m]? = some cc := by rw [← em]; exact Array.getElem?_eq_getElem hlt
    rw [e, List.filter_eq_nil_iff] at hR
    have hq := hR (m, cc, ways w₁ (gs.setIfInBounds i ph) cc) (List.mem_map.2 ⟨(cc, m), by rw [Array.mem_toList_iff]; exact Array.mem_zipIdx_iff_getElem?.2 (by simpa using hm), rfl⟩)
    cases hw : ways w₁ (gs.setIfInBounds i ph) cc with
    | nil => rfl
    | cons x l => rw [hw] at hq; simp at hq
  have hRlen : 0 < R.length := List.length_pos_iff.2 hRne
  obtain ⟨a, d1, ha, hA⟩ := choose_select P w₁ R.length hRlen
  obtain ⟨⟨k, cc, ws⟩, hget⟩ : ∃ p, R[a]? = some p := ⟨R[a], List.getElem?_eq_getElem ha⟩
  have hmem : (k, cc, ws) ∈ R := List.mem_of_getElem? hget
  rw [← hR, List.mem_filter] at hmem
  obtain ⟨hmap, hwsne⟩ := hmem
  obtain ⟨⟨cc', k'⟩, hz, he⟩ := List.mem_map.1 hmap
  simp only [Prod.mk.injEq] at he
  obtain ⟨rfl, rfl, hws⟩ := he
  have hk : cases[k']? = some cc' := mem_of_zipIdx hz
  have hwl : 0 < ws.length := List.length_pos_iff.2 (by intro e; rw [e] at hwsne; simp at hwsne)
  obtain ⟨b, d2, hb, hB⟩ := choose_extern P (w₁.at d1) "which waiting goroutine is the partner" ws.length hwl
  obtain ⟨x, hx⟩ : ∃ x, ws[b]? = some x := ⟨ws[b], List.getElem?_eq_getElem hb⟩
  have hxm : x ∈ ways w₁ (gs.setIfInBounds i ph) cc' := by rw [hws]; exact List.mem_of_getElem? hx
  rw [at_at] at hB
  have hill : cases.any (illMade w₁) = false := any_ill fun cc hcc => (hf cc hcc).made
  obtain ⟨c, closed, s, r, tm, hc, hch, hcl, hway⟩ := (hf cc' (Array.mem_of_getElem? hk)).way hxm
  have hch' : (w₁.at d2).heap[c]? = some (.chan 0 #[] closed s r tm) := hch
  have hgetD : R.getD a (0, default, []) = (k', cc', ws) := by simp [List.getD, hget]
  have hxD : ws.getD b .closed = x := by simp [List.getD, hx]
  have hRe : R.isEmpty = false := by
    cases R with
    | nil => exact absurd rfl hRne
    | cons _ _ => rfl
  rw [runT_crowd_comm hi h]
  unfold communicate
  rw [if_neg (by rw [Bool.not_eq_true]; exact hill)]
  simp only [hR, hRe, Bool.false_eq_true, if_false]
  simp only [Sem.run_bind, hA, Result.andThen_ok, hgetD, hB, hxD, Sem.run_pure, hc, hch']
  rcases hway with ⟨j, kj, rfl, hp⟩ | ⟨rfl, rfl, hsn, hpn⟩
  · obtain ⟨gj, csj, shj, cj, hij, hj, hst, hof, hkj, hcj, hsd⟩ := partner_of hp
    have hj' := stand_get (i := i) hij hj
    have hgd : (gs.setIfInBounds i ph).getD j default = gj := by rw [Array.getD_eq_getD_getElem?, hj']; rfl
    cases hv : cc'.send with
    | some v =>
      have hn : cj.send = none := by
        rw [hv] at hsd
        cases q : cj.send with
        | none => rfl
        | some _ => rw [q] at hsd; cases hsd
      have hfp := finishPartner_at P (gs.setIfInBounds i ph) hj' hof kj v
      rw [hkj] at hfp
      simp only [Option.map_some, hn, Option.isNone_none, Option.getD_some] at hfp
      refine .inl ⟨k', cc', c, closed, s, r, tm, v, j, kj, gj, csj, shj, cj, d2, hk, hc, hv, hch, hij, hj, hst, hof, hkj, hcj, hn, ?_⟩
      simp only [hfp, hgd, set_stand2]
      rfl
    | none =>
      obtain ⟨v, hn⟩ : ∃ v, cj.send = some v := by
        rw [hv] at hsd
        cases q : cj.send with
        | none => rw [q] at hsd; cases hsd
        | some v => exact ⟨v, rfl⟩
      have hfp := finishPartner_at P (gs.setIfInBounds i ph) hj' hof kj undef
      rw [hkj] at hfp
      simp only [Option.map_some, hn, Option.isNone_some, Option.getD_some] at hfp
      have hov : offeredValue (gs.setIfInBounds i ph) j kj = v := by simp [offeredValue, hj', hof, hkj, hn]
      refine .inr (.inl ⟨k', cc', c, closed, s, r, tm, v, j, kj, gj, csj, shj, cj, d2, hk, hc, hv, hch, hij, hj, hst, hof, hkj, hcj, hn, ?_⟩)
      simp only [hfp, hgd, hov, set_stand2]
      rfl
  · refine .inr (.inr ⟨k', cc', c, s, r, tm, d2, hk, hc, hsn, hch, hpn, ?_⟩)
    simp only [set_stand]
    rfl
end meet
end Go.Proofs.YtmbfdhekplnoaaaDoor
