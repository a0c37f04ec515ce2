/-
  What the parts of SideRights read, where the law begins; from the walk to the run.
  A row that says 'leaving' (others may be there, and only leave), of a call that starts nobody: who is alone when it returns is so all the more; and its card.
-/
import Derived.Test.YtmbfdhekplnoaaaDoorSideRestX
import Derived.Test.YtmbfdhekplnoaaaDoorLaidAll
import Derived.Conc.Holds
import Derived.Handed
import Derived.SevenTiedAt
namespace Go.Proofs.YtmbfdhekplnoaaaDoor
open Go Go.Conc

theorem low_rows : ((List.range 11).all fun g => (((begin Tryd.prog (fun _ _ => 0) default).world.heap[g]?).bind Obj.row?).isSome) = true := by kernel_rfl
theorem low_last : (match (begin Tryd.prog (fun _ _ => 0) default).world.heap[11]? with | some (Obj.cells _ _ f) => f == (0, 0) | _ => false) = true := by kernel_rfl
theorem low_bare {W : World} (h : W.ShapedOpen Tryd.prog) {g : Nat} (hg : g < 11 + 1) : Bare W ⟨g, 0, none⟩ := by
  rcases Nat.lt_or_ge g 11 with q | q
  · have := List.all_eq_true.1 low_rows g (List.mem_range.2 q)
    obtain ⟨⟨z, t⟩, hz⟩ := Option.isSome_iff_exists.1 this
    obtain ⟨cs, hc, _⟩ := h.1 g z t (by rw [ng_is]; exact q) hz
    exact ⟨cs, t, hc⟩
  · obtain rfl : g = 11 := by omega
    have l := low_last
    cases hb : (begin Tryd.prog (fun _ _ => 0) default).world.heap[11]? with
    | none => rw [hb] at l; cases l
    | some o =>
      obtain ⟨o1, o2, h1, h2, h3⟩ := h.2 11 (by rw [ng_is]; exact Nat.le_refl _) (Array.getElem?_eq_some_iff.1 hb).1
      rw [ng_is, Nat.sub_self] at h3
      have h3 : o1 = o2 := h3
      subst h3
      rw [hb] at h2
      cases h2
      rw [hb] at l
      cases o with
      | cells c t f =>
        have e : f = (0, 0) := by simpa using l
        subst e
        exact ⟨c, t, h1⟩
      | _ => cases l
def marked (W : World) (b : Nat) : Bool := match W.heap[b]? with | some (.cells _ _ f) => !(f == (0, 0)) | _ => false
theorem Bare.not_marked {W : World} {x : Addr} (h : Bare W x) : marked W x.block = false := by
  obtain ⟨c, t, h⟩ := h
  unfold marked
  rw [h]
  rfl
def blkOf : Option Addr → List Nat
  | some x => [x.block]
  | none => []
def Lies (W : World) (a : Option Addr) : Prop := ∀ x, a = some x → ∃ c t f, W.heap[x.block]? = some (.cells c t f)
set_option maxRecDepth 100000 in
theorem lies_of {W : World} {r : _root_.Go.Reach} {base : Nat} {t e : TypeId} {a : Option Addr} {n cap : Nat} (ht : Tryd.prog.underlying t = some (.slice e)) (h : Value.okWide Tryd.prog W r base t (.slice a n cap)) : Lies W a ∧ n ≤ 9223372036854775807 := by
  simp only [Value.okWide, ht, Cell.okWide] at h
  cases a with
  | none =>
    refine ⟨fun x e => (by cases e), ?_⟩
    rcases n with _ | n
    · omega
    · simp [Cell.ok, ht] at h
  | some x =>
    simp only [Cell.ok, ht] at h
    obtain ⟨h1, h2, _, _, row, cells, h3, _⟩ := h
    refine ⟨fun y e => ?_, ?_⟩
    · cases e
      unfold World.shape? at h3
      cases hb : W.heap[x.block]? with
      | none => rw [hb] at h3; cases h3
      | some o => cases o with
        | cells c t f => exact ⟨c, t, f, rfl⟩
        | _ => rw [hb] at h3; cases h3
    · have : IntKind.i64.max = 9223372036854775807 := by decide
      omega
theorem house_of {W : World} {A : Nat → Addr} {a la : Option Addr} (hsh : W.ShapedOpen Tryd.prog) (hL : Laid W A) (hB : ∀ i, i < 10 → Bare W (A i)) (ha : Lies W a) (hla : Lies W la) :
    ∃ S R, House W S R A ∧ (∀ b, S.elem b = true → b < W.heap.size) ∧ SliceIn S a ∧ SliceIn S la := by
  let B := blkOf a ++ blkOf la
  let E := (List.range 10).map fun i => (A i).block
  have inB : ∀ b, b ∈ B → ∃ c t f, W.heap[b]? = some (.cells c t f) := fun b hb => by
    rcases List.mem_append.1 hb with q | q
    · cases a with
      | none => cases q
      | some x => rw [List.mem_singleton.1 q]; exact ha x rfl
    · cases la with
      | none => cases q
      | some x => rw [List.mem_singleton.1 q]; exact hla x rfl
  have gl_low : ∀ g, kGl.elem g = true → g < 11 + 1 := fun g hg => gl_lt (show kin.Gl g from hg)
  have memS : ∀ {b}, (kGl ++ (E ++ B)).elem b = true ↔ kGl.elem b = true ∨ b ∈ E ∨ b ∈ B := by simp
  have memR : ∀ {b}, (B.filter (marked W)).elem b = true ↔ b ∈ B ∧ marked W b = true := by simp
  have H : House W (kGl ++ (E ++ B)) (B.filter (marked W)) A := by
    refine ⟨⟨fun s hs => ?_, fun b hb => ?_⟩, hL, fun g hg => memS.2 (.inl hg), fun i hi => ⟨memS.2 (.inr (.inl (List.mem_map.2 ⟨i, List.mem_range.2 hi, rfl⟩))), ?_⟩⟩
    · rcases memS.1 hs with q | q | q
      · obtain ⟨c, t, z⟩ := low_bare hsh (gl_low s q)
        exact ⟨c, t, _, z, .inl rfl⟩
      · obtain ⟨i, hi, rfl⟩ := List.mem_map.1 q
        obtain ⟨c, t, z⟩ := hB i (List.mem_range.1 hi)
        exact ⟨c, t, _, z, .inl rfl⟩
      · obtain ⟨c, t, f, z⟩ := inB s q
        refine ⟨c, t, f, z, ?_⟩
        rcases Classical.em (f = (0, 0)) with e | e
        · exact .inl e
        · exact .inr (memR.2 ⟨q, by unfold marked; rw [z]; simpa using e⟩)
    · obtain ⟨q1, q2⟩ := memR.1 hb
      refine ⟨memS.2 (.inr (.inr q1)), ?_⟩
      rcases Nat.lt_or_ge b kin.G with z | z
      · have := (low_bare hsh (g := b) z).not_marked
        rw [q2] at this
        cases this
      · exact z
    · cases q : (B.filter (marked W)).elem (A i).block with
      | false => rfl
      | true => have := (memR.1 q).2; rw [(hB i hi).not_marked] at this; cases this
  exact ⟨_, _, H, fun b hb => H.lt hb, fun x e => memS.2 (.inr (.inr (List.mem_append.2 (.inl (by rw [e]; exact .head _))))), fun x e => memS.2 (.inr (.inr (List.mem_append.2 (.inr (by rw [e]; exact .head _)))))⟩
theorem run_of {P : Program} {W : World} {a : Goroutine} {Post : Value → World → Prop} (h : Walks P true (fun b => b < W.heap.size) (Ends P (fun b => b < W.heap.size) Post) (fun _ => False) a W) : EndsIn P (Go.Conc.Good P Post) (solo a W) #[] := by
  have := (ends_of_walk h).2 #[a] #[] none (fun i b => i = 0 ∧ False) (fun _ => False) (fun _ => 0) (funext fun b => propext ⟨fun z => z.2, fun z => z.elim⟩) ?_
  · rw [← solo_eq_crowd] at this
    exact this
  · exact
      { zero := rfl
        own := Owners.first W.heap.size (fun _ => False) _ _ (fun b z => z.elim) (fun b hb => ⟨hb, id⟩) fun b z => z.elim
        left := ⟨fun i g hi hg => by
          cases i with
          | zero => omega
          | succ i => simp at hg, fun j _ => rfl⟩
        hears := rfl
        over := fun i g hg => by simp [Trace.g?] at hg
        who := fun i g hg => by simp [Trace.g?] at hg
        norel := fun a i e => by simp [Trace.act?] at e }
end Go.Proofs.YtmbfdhekplnoaaaDoor

namespace Go.Proofs.YtmbfdhekplnoaaaDoor

theorem holds_tied_plain_goes (Lk : Looks) {p : Pinned} {s : OpenSpec} {c : OpenClaim} (al : List (List PathCond)) (kinds : List LaidKind) (tests : Bool) (har : Bool × String) (lk : Bool)
    (hc : c.holds p s) (hal : ∀ D ∈ al, (c.withDomain D).holds p s) (hw : c.wfByText s = true) (hwal : ∀ D ∈ al, (c.withDomain D).wfByText s = true)
    (htie : c.laidByTextAt Lk p kinds tests)
    (hst : c.start = .entering) (hnb : c.noBlocks = false ∧ c.again = false) (hm : p.checked.prog.mainIs = some (har.1, har.2.toList)) (hn : (!har.1 && har.2.isEmpty && !lk) = false)
    (hl : ∀ f fn, p.checked.prog.funcNamed c.func = some f → p.checked.prog.funcs[f]? = some fn → lk = p.checked.prog.looks [] ∧ ∀ (j : Nat) t, fn.params[j]? = some t → p.checked.prog.wantsStandIn t = false)
    (hg : true = c.goesBy p.checked.prog) :
    Claim7.holds p (.plain s) { stood := { row := c, standIns := [], harness := har, looks := lk }, kinds := [], alts := al, goes := true, laidByText := true, laidKinds := kinds, laidTests := tests, laidLooks := Lk } := by
  have h6 : ∀ r : OpenClaim, Claim7.isSixth { stood := { row := r, standIns := [], harness := har, looks := lk }, kinds := [] } = false := fun r => by simpa [Claim7.isSixth] using hn
  refine ⟨Claim7.tied_new_at Lk kinds tests (Claim7.new_of_sixth hc har lk hst hnb hm (h6 c) hl) hw, fun D hD => ?_, htie, (fun h => by cases h), hg⟩
  exact Claim7.tied_new_at Lk kinds tests (Claim7.new_of_sixth (hal D hD) har lk hst hnb hm (h6 _) hl) (hwal D hD)
end Go.Proofs.YtmbfdhekplnoaaaDoor
