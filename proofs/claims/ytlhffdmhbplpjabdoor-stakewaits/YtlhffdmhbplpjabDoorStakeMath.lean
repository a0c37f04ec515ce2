/-
  Stakes, plainly: a pool for each of three bakers, and pools of what waits by bakers and cycles; what each act makes of them, and what is in all of them together.
-/
import Derived.Test.YtlhffdmhbplpjabDoorPoolMath
namespace Go.Proofs.YtlhffdmhbplpjabDoor

/-- a pool that has nothing -/
def e0 : St := ⟨0, fun _ => 0⟩
theorem e0_A : e0.A = 0 := rfl
theorem e0_ok : e0.Ok := ⟨by decide, by decide, fun _ => Int.le_refl _, fun _ _ => rfl, by decide, fun _ => rfl⟩
theorem e0_val (o : Int) : e0.val o = 0 := if_pos rfl
theorem St.eta (x : St) (t : Int) (h : t = x.T) : (⟨t, x.s⟩ : St) = x := by subst h; rfl

/-! sums over keys -/
def sumK (K : List (Int × Int)) (f : Int → Int → Int) : Int := match K with
  | [] => 0
  | k :: l => f k.1 k.2 + sumK l f
theorem sumK_cons (k : Int × Int) (l : List (Int × Int)) (f : Int → Int → Int) : sumK (k :: l) f = f k.1 k.2 + sumK l f := rfl
theorem sumK_append (f : Int → Int → Int) : ∀ (K L : List (Int × Int)), sumK (K ++ L) f = sumK K f + sumK L f
  | [], L => by rw [List.nil_append]; exact (Int.zero_add _).symm
  | k :: l, L => by rw [List.cons_append, sumK_cons, sumK_cons, sumK_append f l L]; omega
theorem sumK_congr {f g : Int → Int → Int} : ∀ (K : List (Int × Int)), (∀ k, k ∈ K → f k.1 k.2 = g k.1 k.2) → sumK K f = sumK K g
  | [], _ => rfl
  | k :: l, h => by rw [sumK_cons, sumK_cons, h k (List.mem_cons_self ..), sumK_congr l (fun j hj => h j (List.mem_cons_of_mem _ hj))]
theorem sumK_add (f g : Int → Int → Int) : ∀ (K : List (Int × Int)), sumK K (fun b c => f b c + g b c) = sumK K f + sumK K g
  | [] => rfl
  | k :: l => by rw [sumK_cons, sumK_cons, sumK_cons, sumK_add f g l]; omega
theorem sumK_nonneg {f : Int → Int → Int} : ∀ (K : List (Int × Int)), (∀ k, k ∈ K → 0 ≤ f k.1 k.2) → 0 ≤ sumK K f
  | [], _ => Int.le_refl _
  | k :: l, h => by
    rw [sumK_cons]
    have := h k (List.mem_cons_self ..)
    have := sumK_nonneg l (fun j hj => h j (List.mem_cons_of_mem _ hj))
    omega
theorem sumK_le {f : Int → Int → Int} {M : Int} : ∀ (K : List (Int × Int)), (∀ k, k ∈ K → f k.1 k.2 ≤ M) → sumK K f ≤ K.length * M
  | [], _ => by rw [List.length_nil]; exact Int.le_of_eq (Int.zero_mul M).symm
  | k :: l, h => by
    rw [sumK_cons, List.length_cons]
    have := h k (List.mem_cons_self ..)
    have := sumK_le l (fun j hj => h j (List.mem_cons_of_mem _ hj))
    have e : ((l.length + 1 : Nat) : Int) * M = l.length * M + M := by rw [Int.natCast_add, Int.add_mul]; simp
    omega
theorem sumK_zero {f : Int → Int → Int} (K : List (Int × Int)) (h : ∀ k, k ∈ K → f k.1 k.2 = 0) : sumK K f = 0 := by
  rw [sumK_congr (g := fun _ _ => 0) K h]
  induction K with
  | nil => rfl
  | cons k l ih => rw [sumK_cons, ih (fun j hj => h j (List.mem_cons_of_mem _ hj))]; rfl
/-- one key's summand changed -/
theorem sumK_one {f g : Int → Int → Int} (b c : Int) : ∀ (K : List (Int × Int)), K.Nodup → (b, c) ∈ K → (∀ k, k ∈ K → k ≠ (b, c) → g k.1 k.2 = f k.1 k.2) → sumK K g = sumK K f - f b c + g b c
  | [], _, h, _ => by cases h
  | k :: l, hn, h, hg => by
    obtain ⟨hk, hl⟩ := List.nodup_cons.1 hn
    rw [sumK_cons, sumK_cons]
    rcases List.mem_cons.1 h with e | e
    · subst e
      rw [sumK_congr (f := g) (g := f) l (fun j hj => hg j (List.mem_cons_of_mem _ hj) (fun e => hk (e ▸ hj)))]
      show g b c + _ = f b c + _ - f b c + g b c
      omega
    · rw [sumK_one b c l hl e (fun j hj ne => hg j (List.mem_cons_of_mem _ hj) ne), hg k (List.mem_cons_self ..) (fun g => hk (g ▸ e))]
      omega

/-! functions set at one place -/
def set1 {α : Type} (f : Int → α) (b : Int) (v : α) : Int → α := fun i => if i = b then v else f i
theorem set1_same {α : Type} (f : Int → α) (b : Int) (v : α) : set1 f b v b = v := if_pos rfl
theorem set1_other {α : Type} (f : Int → α) (b : Int) (v : α) (i : Int) (h : i ≠ b) : set1 f b v i = f i := if_neg h
theorem set1_id {α : Type} (f : Int → α) (b : Int) (v : α) (h : v = f b) : set1 f b v = f := by
  funext i
  by_cases e : i = b
  · subst e; rw [set1_same, h]
  · rw [set1_other _ _ _ _ e]
def set2 {α : Type} (f : Int → Int → α) (b c : Int) (v : α) : Int → Int → α := fun i j => if i = b ∧ j = c then v else f i j
theorem set2_same {α : Type} (f : Int → Int → α) (b c : Int) (v : α) : set2 f b c v b c = v := if_pos ⟨rfl, rfl⟩
theorem set2_other {α : Type} (f : Int → Int → α) (b c : Int) (v : α) (i j : Int) (h : (i, j) ≠ (b, c)) : set2 f b c v i j = f i j := if_neg fun g => h (by rw [g.1, g.2])

/-- stakes: who is registered, bakers' pools, the keys of what waits in their order, and those pools -/
structure Sk where
  R : Int → Bool
  P : Int → St
  K : List (Int × Int)
  W : Int → Int → St
abbrev Bk (b : Int) : Prop := 0 ≤ b ∧ b < 3
abbrev Cy (c : Int) : Prop := 0 ≤ c ∧ c ≤ 1048576
abbrev Ow (o : Int) : Prop := 0 ≤ o ∧ o < 6
structure Sk.Ok (S : Sk) : Prop where
  rin : ∀ b, S.R b = true → Bk b
  pok : ∀ b, (S.P b).Ok
  pout : ∀ b, S.R b = false → S.P b = e0
  wok : ∀ b c, (S.W b c).Ok
  wout : ∀ b c, (b, c) ∉ S.K → S.W b c = e0
  kin : ∀ k, k ∈ S.K → S.R k.1 = true ∧ Cy k.2
  knd : S.K.Nodup
def Sk.none : Sk := ⟨fun _ => false, fun _ => e0, [], fun _ _ => e0⟩
theorem Sk.none_ok : Sk.none.Ok := ⟨fun _ h => (by cases h), fun _ => e0_ok, fun _ _ => rfl, fun _ _ => e0_ok, fun _ _ _ => rfl, fun _ h => (by cases h), List.nodup_nil⟩
/-- all that is in them -/
def Sk.total (S : Sk) : Int := (S.P 0).T + (S.P 1).T + (S.P 2).T + sumK S.K fun b c => (S.W b c).T
theorem Sk.Ok.total_bd {S : Sk} (h : S.Ok) : 0 ≤ S.total ∧ S.total ≤ (3 + S.K.length) * 1125899906842624 := by
  have a0 := h.pok 0
  have a1 := h.pok 1
  have a2 := h.pok 2
  have := a0.t0
  have := a0.t1
  have := a1.t0
  have := a1.t1
  have := a2.t0
  have := a2.t1
  have s0 := sumK_nonneg (f := fun b c => (S.W b c).T) S.K (fun k _ => (h.wok _ _).t0)
  have s1 := sumK_le (f := fun b c => (S.W b c).T) (M := 1125899906842624) S.K (fun k _ => (h.wok _ _).t1)
  unfold Sk.total
  generalize sumK S.K (fun b c => (S.W b c).T) = x at *
  constructor <;> omega

/-! what each act makes -/
def Sk.regC (S : Sk) (b : Int) : Int := if ¬ Bk b then 2 else if S.R b then 5 else 0
def Sk.reg (S : Sk) (b : Int) : Sk := if S.regC b = 0 then ⟨set1 S.R b true, S.P, S.K, S.W⟩ else S
def Sk.joinC (S : Sk) (o b n : Int) : Int := if S.R b then (S.P b).joinC o n else 4
def Sk.join (S : Sk) (o b n : Int) : Sk := if S.R b then ⟨S.R, set1 S.P b ((S.P b).join o n), S.K, S.W⟩ else S
def Sk.leaveC (S : Sk) (o b n c : Int) : Int := if S.R b then (if ¬ Cy c then 2 else if (S.P b).takeC o n ≠ 0 then (S.P b).takeC o n else (S.W b c).joinC o n) else 4
def keyed2 (K : List (Int × Int)) (b c : Int) : List (Int × Int) := if (b, c) ∈ K then K else K ++ [(b, c)]
def Sk.leave (S : Sk) (o b n c : Int) : Sk := if S.leaveC o b n c = 0 then ⟨S.R, set1 S.P b ((S.P b).take o n), keyed2 S.K b c, set2 S.W b c ((S.W b c).join o n)⟩ else S
def Sk.has (S : Sk) (o c : Int) : Bool := S.K.any fun k => decide (k.2 + 2 < c) && decide ((S.W k.1 k.2).leaveC o = 0)
def Sk.freeC (S : Sk) (o c : Int) : Int := if ¬ (Ow o ∧ Cy c) then 2 else if S.has o c then 0 else 4
def Sk.freeN (S : Sk) (o c : Int) : Int := if ¬ (Ow o ∧ Cy c) then 0 else sumK S.K fun b' c' => if c' + 2 < c then (S.W b' c').leaveN o else 0
def Sk.free (S : Sk) (o c : Int) : Sk := if ¬ (Ow o ∧ Cy c) then S else ⟨S.R, S.P, S.K, fun b' c' => if c' + 2 < c then (S.W b' c').leave o else S.W b' c'⟩
def Sk.addC (S : Sk) (b n : Int) : Int := if S.R b then (S.P b).addC n else 4
def Sk.add (S : Sk) (b n : Int) : Sk := if S.R b then ⟨S.R, set1 S.P b ((S.P b).add n), S.K, S.W⟩ else S
def Sk.slashC (S : Sk) (b p : Int) : Int := if S.R b then (if 0 ≤ p ∧ p ≤ 100 then 0 else 2) else 4
def Sk.slashN (S : Sk) (b f p : Int) : Int := if S.slashC b p = 0 then (S.P b).slashN p + sumK S.K (fun b' c' => if b' = b ∧ f ≤ c' then (S.W b' c').slashN p else 0) else 0
def Sk.slash (S : Sk) (b f p : Int) : Sk := if S.slashC b p = 0 then ⟨S.R, set1 S.P b ((S.P b).slash p), S.K, fun b' c' => if b' = b ∧ f ≤ c' then (S.W b' c').slash p else S.W b' c'⟩ else S

/-! small facts -/
theorem e0_leave (o : Int) : e0.leave o = e0 := by
  refine if_neg ?_
  unfold St.leaveC
  split
  · omega
  · rw [if_pos (show e0.s o = 0 from rfl)]; omega
theorem e0_slash (p : Int) : e0.slash p = e0 := by
  refine St.eta e0 _ ?_
  show (0 : Int) - e0.slashN p = 0
  unfold St.slashN
  split
  · show (0 : Int) - 0 * p / 100 = 0
    rw [Int.zero_mul]; decide
  · rfl
theorem keyed2_mem (K : List (Int × Int)) (b c : Int) : (b, c) ∈ keyed2 K b c := by
  unfold keyed2
  split
  · assumption
  · simp
theorem keyed2_old {K : List (Int × Int)} {b c : Int} {k : Int × Int} (h : k ∈ K) : k ∈ keyed2 K b c := by
  unfold keyed2
  split
  · exact h
  · exact List.mem_append.2 (.inl h)
theorem keyed2_cases {K : List (Int × Int)} {b c : Int} {k : Int × Int} (h : k ∈ keyed2 K b c) : k ∈ K ∨ k = (b, c) := by
  unfold keyed2 at h
  split at h
  · exact .inl h
  · rcases List.mem_append.1 h with g | g
    · exact .inl g
    · exact .inr (by simpa using g)
theorem keyed2_nodup {K : List (Int × Int)} {b c : Int} (h : K.Nodup) : (keyed2 K b c).Nodup := by
  unfold keyed2
  split
  · exact h
  · rename_i hn
    refine List.nodup_append.2 ⟨h, by simp, ?_⟩
    intro a ha x hx e
    have : x = (b, c) := by simpa using hx
    exact hn (by rw [← this, ← e]; exact ha)
theorem keyed2_len (K : List (Int × Int)) (b c : Int) : (keyed2 K b c).length ≤ K.length + 1 := by
  unfold keyed2
  split
  · exact Nat.le_succ _
  · rw [List.length_append]; exact Nat.le_refl _

/-! they stay as they should be -/
theorem Sk.Ok.reg {S : Sk} (h : S.Ok) (b : Int) : (S.reg b).Ok := by
  unfold Sk.reg
  split
  · rename_i hc
    unfold Sk.regC at hc
    have hb : Bk b := by
      by_cases g : Bk b
      · exact g
      · rw [if_pos g] at hc; omega
    refine ⟨fun i hi => ?_, h.pok, fun i hi => ?_, h.wok, h.wout, fun k hk => ⟨?_, (h.kin k hk).2⟩, h.knd⟩
    · by_cases e : i = b
      · subst e; exact hb
      · exact h.rin i ((set1_other S.R b true i e).symm.trans hi)
    · by_cases e : i = b
      · subst e
        rw [show (⟨set1 S.R i true, S.P, S.K, S.W⟩ : Sk).R i = true from set1_same ..] at hi
        cases hi
      · exact h.pout i (by rw [show (⟨set1 S.R b true, S.P, S.K, S.W⟩ : Sk).R i = S.R i from set1_other _ _ _ _ e] at hi; exact hi)
    · by_cases e : k.1 = b
      · rw [e]; exact set1_same ..
      · exact (set1_other _ _ _ _ e).trans (h.kin k hk).1
  · exact h
/-- a baker's pool changed -/
theorem Sk.Ok.pool {S : Sk} (h : S.Ok) {b : Int} {x : St} (hr : S.R b = true) (hx : x.Ok) : (⟨S.R, set1 S.P b x, S.K, S.W⟩ : Sk).Ok := by
  refine ⟨h.rin, fun i => ?_, fun i hi => ?_, h.wok, h.wout, h.kin, h.knd⟩
  · by_cases e : i = b
    · subst e; rw [show (⟨S.R, set1 S.P i x, S.K, S.W⟩ : Sk).P i = x from set1_same ..]; exact hx
    · rw [show (⟨S.R, set1 S.P b x, S.K, S.W⟩ : Sk).P i = S.P i from set1_other _ _ _ _ e]; exact h.pok i
  · have e : i ≠ b := fun e => by
      subst e
      rw [show (⟨S.R, set1 S.P i x, S.K, S.W⟩ : Sk).R i = true from hr] at hi
      cases hi
    rw [show (⟨S.R, set1 S.P b x, S.K, S.W⟩ : Sk).P i = S.P i from set1_other _ _ _ _ e]; exact h.pout i hi
/-- what waits changed, each pool by itself, nothing staying so -/
theorem Sk.Ok.waits {S : Sk} (h : S.Ok) {V : Int → Int → St} (hv : ∀ b c, (V b c).Ok) (h0 : ∀ b c, S.W b c = e0 → V b c = e0) : (⟨S.R, S.P, S.K, V⟩ : Sk).Ok :=
  ⟨h.rin, h.pok, h.pout, hv, fun b c hk => h0 b c (h.wout b c hk), h.kin, h.knd⟩
theorem Sk.Ok.join {S : Sk} (h : S.Ok) (o b n : Int) : (S.join o b n).Ok := by
  unfold Sk.join
  split
  · exact h.pool (by assumption) ((h.pok b).join o n)
  · exact h
theorem Sk.Ok.add {S : Sk} (h : S.Ok) (b n : Int) : (S.add b n).Ok := by
  unfold Sk.add
  split
  · exact h.pool (by assumption) ((h.pok b).add n)
  · exact h
theorem Sk.leaveC_zero {S : Sk} {o b n c : Int} (h : S.leaveC o b n c = 0) : S.R b = true ∧ Cy c ∧ (S.P b).takeC o n = 0 ∧ (S.W b c).joinC o n = 0 := by
  unfold Sk.leaveC at h
  by_cases hr : S.R b
  · rw [if_pos hr] at h
    by_cases hc : Cy c
    · rw [if_neg (not_not_intro hc)] at h
      by_cases ht : (S.P b).takeC o n = 0
      · rw [if_neg (not_not_intro ht)] at h
        exact ⟨hr, hc, ht, h⟩
      · rw [if_pos ht] at h; exact absurd h ht
    · rw [if_pos hc] at h; omega
  · rw [if_neg hr] at h; omega
theorem Sk.Ok.leave {S : Sk} (h : S.Ok) (o b n c : Int) : (S.leave o b n c).Ok := by
  unfold Sk.leave
  split
  · rename_i hc
    obtain ⟨hr, hcy, _, _⟩ := Sk.leaveC_zero hc
    have g := h.pool hr ((h.pok b).take o n)
    refine ⟨g.rin, g.pok, g.pout, fun i j => ?_, fun i j hn => ?_, fun k hk => ?_, keyed2_nodup h.knd⟩
    · by_cases e : (i, j) = (b, c)
      · cases e
        show (set2 S.W b c _ b c).Ok
        rw [set2_same]
        exact (h.wok b c).join o n
      · show (set2 S.W b c _ i j).Ok
        rw [set2_other _ _ _ _ _ _ e]
        exact h.wok i j
    · have e : (i, j) ≠ (b, c) := fun e => hn (e ▸ keyed2_mem ..)
      exact (set2_other S.W b c _ i j e).trans (h.wout i j fun g => hn (keyed2_old g))
    · rcases keyed2_cases hk with e | e
      · exact h.kin k e
      · subst e; exact ⟨hr, hcy⟩
  · exact h
theorem Sk.Ok.free {S : Sk} (h : S.Ok) (o c : Int) : (S.free o c).Ok := by
  unfold Sk.free
  split
  · exact h
  · refine h.waits (fun b' c' => ?_) (fun b' c' e => ?_)
    · split
      · exact (h.wok b' c').leave o
      · exact h.wok b' c'
    · split
      · rw [e]; exact e0_leave o
      · exact e
theorem Sk.Ok.slash {S : Sk} (h : S.Ok) (b f p : Int) : (S.slash b f p).Ok := by
  unfold Sk.slash
  split
  · rename_i hc
    have hr : S.R b = true := by
      unfold Sk.slashC at hc
      by_cases g : S.R b
      · exact g
      · rw [if_neg g] at hc; omega
    refine (h.pool hr ((h.pok b).slash p)).waits (fun b' c' => ?_) (fun b' c' e => ?_)
    · split
      · exact (h.wok b' c').slash p
      · exact h.wok b' c'
    · split
      · rw [show S.W b' c' = e0 from e]; exact e0_slash p
      · exact e
  · exact h
theorem freeN_none (S : Sk) (o c : Int) (h : S.has o c = false) : S.freeN o c = 0 := by
  unfold Sk.freeN
  split
  · rfl
  · refine sumK_zero _ fun k hk => ?_
    split
    · rename_i hc
      unfold Sk.has at h
      have := List.any_eq_false.1 h k hk
      refine if_neg fun e => this ?_
      simp [hc, e]
    · rfl
theorem Sk.freeN_err {S : Sk} {o c : Int} (h : S.freeC o c ≠ 0) : S.freeN o c = 0 := by
  unfold Sk.freeC at h
  by_cases hb : Ow o ∧ Cy c
  · rw [if_neg (not_not_intro hb)] at h
    refine freeN_none S o c ?_
    cases g : S.has o c with
    | false => rfl
    | true => rw [g] at h; exact absurd rfl h
  · exact if_pos hb
end Go.Proofs.YtlhffdmhbplpjabDoor
