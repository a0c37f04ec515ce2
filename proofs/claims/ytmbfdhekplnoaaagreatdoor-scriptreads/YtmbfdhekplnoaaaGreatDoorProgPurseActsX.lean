/-
  A line cut at its blanks, and numbers that a word spells, plainly.
  A map from words to commands: written, looked up.
  Worlds that are alike but for blocks of one kind; parts of memory told by tags.
  Parts of memory that are a call's own: one; two that lie apart.
  Parts of memory told by tags: tags anew where a part has moved.
  Package bound by its contracts: which numbers are amounts, and which are owners.
  A sentinel's value.
  An error's value, by its number.
  The program's purse by its contracts.
  The program's purse by its contracts: what is done to it.
-/
import Derived.Test.YtmbfdhekplnoaaaGreatDoorTextOwnX
import Derived.Test.YtmbfdhekplnoaaaGreatDoorIssueMathX
import Derived.Maps.OwnSet
import Derived.StringKeys
import Derived.Laws.AppendOwn
import Derived.Deep.RegionLaw
namespace Go.Proofs.YtmbfdhekplnoaaaGreatDoor

/-- the words of a line -/
def cuts : List UInt8 → List (List UInt8)
  | [] => [[]]
  | b :: l => if b = 32 then [] :: cuts l else (b :: (cuts l).headD []) :: (cuts l).tail
theorem cuts_word : ∀ a : List UInt8, (∀ x, x ∈ a → x ≠ 32) → cuts a = [a]
  | [], _ => rfl
  | b :: l, h => by
    rw [cuts, if_neg (h b (List.mem_cons_self ..)), cuts_word l fun x hx => h x (List.mem_cons_of_mem _ hx)]
    rfl
theorem cuts_more : ∀ (a t : List UInt8), (∀ x, x ∈ a → x ≠ 32) → cuts (a ++ 32 :: t) = a :: cuts t
  | [], t, _ => by rw [List.nil_append, cuts, if_pos rfl]
  | b :: l, t, h => by
    rw [List.cons_append, cuts, if_neg (h b (List.mem_cons_self ..)), cuts_more l t fun x hx => h x (List.mem_cons_of_mem _ hx)]
    rfl
/-- .. and put together -/
def glued (ws : List (List UInt8)) : List UInt8 := ws.flatMap fun x => 32 :: x
theorem glued_cons (x : List UInt8) (ws : List (List UInt8)) : glued (x :: ws) = 32 :: (x ++ glued ws) := by simp [glued]
theorem cuts_shape : ∀ s : List UInt8, ∃ wd rest, cuts s = wd :: rest ∧ s = wd ++ glued rest
  | [] => ⟨[], [], rfl, rfl⟩
  | b :: l => by
    obtain ⟨wd, rest, e1, e2⟩ := cuts_shape l
    by_cases h : b = 32
    · exact ⟨[], cuts l, by rw [cuts, if_pos h], by rw [e1, glued_cons, ← e2, h]; rfl⟩
    · exact ⟨b :: wd, rest, by rw [cuts, if_neg h, e1]; rfl, by rw [e2]; rfl⟩
theorem cuts_len (s : List UInt8) : (cuts s).length ≤ s.length + 1 := by
  induction s with
  | nil => exact Nat.le_refl _
  | cons b l ih =>
    rw [cuts]
    split
    · simp only [List.length_cons]; omega
    · simp only [List.length_cons, List.length_tail]; omega
theorem cuts_short (s : List UInt8) : ∀ x, x ∈ cuts s → x.length ≤ s.length := by
  induction s with
  | nil => intro x hx; rw [cuts, List.mem_singleton] at hx; rw [hx]; exact Nat.le_refl _
  | cons b l ih =>
    intro x hx
    rw [cuts] at hx
    obtain ⟨wd, rest, e1, _⟩ := cuts_shape l
    rw [e1] at hx ih
    split at hx
    · rcases List.mem_cons.1 hx with e | e
      · rw [e]; exact Nat.zero_le _
      · have := ih x e; simp only [List.length_cons]; omega
    · simp only [List.headD_cons, List.tail_cons] at hx
      rcases List.mem_cons.1 hx with e | e
      · have := ih wd (List.mem_cons_self ..); rw [e]; simp only [List.length_cons]; omega
      · have := ih x (List.mem_cons_of_mem _ e); simp only [List.length_cons]; omega
theorem cuts_cmd : ∀ (ns : List Nat) (wd : List UInt8), (∀ x, x ∈ wd → x ≠ 32) → cuts (cmdText wd ns) = wd :: ns.map dec
  | [], wd, h => by unfold cmdText; rw [show numText [] = [] from rfl, List.append_nil, cuts_word wd h]; rfl
  | n :: ns, wd, h => by
    unfold cmdText
    rw [numText_cons, cuts_more _ _ h, List.map_cons]
    rw [show dec n ++ numText ns = cmdText (dec n) ns from rfl, cuts_cmd ns (dec n) (dec_noblank n)]
theorem glued_dec : ∀ ns : List Nat, glued (ns.map dec) = numText ns
  | [] => rfl
  | n :: ns => by rw [List.map_cons, glued_cons, numText_cons, glued_dec ns]

theorem snoc_ind {P : List UInt8 → Prop} (h0 : P []) (h1 : ∀ l x, P l → P (l ++ [x])) (l : List UInt8) : P l := by
  rw [← List.reverse_reverse l]
  induction l.reverse with
  | nil => exact h0
  | cons x t ih => rw [List.reverse_cons]; exact h1 _ x ih
/-- the number that digits make -/
def numV (l : List UInt8) : Nat := l.foldl (fun n x => 10 * n + (x.toNat - 48)) 0
theorem numV_next (l : List UInt8) (x : UInt8) : numV (l ++ [x]) = 10 * numV l + (x.toNat - 48) := by simp [numV]
def Digit (x : UInt8) : Prop := 48 ≤ x.toNat ∧ x.toNat ≤ 57
instance (x : UInt8) : Decidable (Digit x) := inferInstanceAs (Decidable (_ ∧ _))
theorem numV_top (l : List UInt8) : (∀ x, x ∈ l → Digit x) → numV l < 10 ^ l.length := by
  induction l using snoc_ind with
  | h0 => intro _; exact Nat.one_pos
  | h1 l x ih =>
    intro h
    have a := ih fun y hy => h y (List.mem_append_left _ hy)
    have b : Digit x := h x (by simp)
    rw [numV_next, List.length_append, List.length_singleton, Nat.pow_succ]
    have := b.2
    have := b.1
    omega
theorem numV_pos (l : List UInt8) : (∀ x, x ∈ l → Digit x) → 0 < l.length → l.getD 0 0 ≠ 48 → 0 < numV l := by
  induction l using snoc_ind with
  | h0 => intro _ h; exact absurd h (by decide)
  | h1 l x ih =>
    intro h _ h0
    rw [numV_next]
    cases l with
    | nil =>
      have b : Digit x := h x (by simp)
      have n : x ≠ 48 := h0
      have := b.1
      have : x.toNat ≠ 48 := fun e => n (UInt8.toNat_inj.1 e)
      omega
    | cons y t =>
      have := ih (fun z hz => h z (List.mem_append_left _ hz)) (by simp) h0
      omega
theorem numV_dec (l : List UInt8) : (∀ x, x ∈ l → Digit x) → 0 < l.length → ¬ (1 < l.length ∧ l.getD 0 0 = 48) → dec (numV l) = l := by
  induction l using snoc_ind with
  | h0 => intro _ h; exact absurd h (by decide)
  | h1 l x ih =>
    intro h _ h0
    have b : Digit x := h x (by simp)
    have b1 := b.1
    have b2 := b.2
    have ex : UInt8.ofNat (48 + (x.toNat - 48)) = x := by
      rw [show 48 + (x.toNat - 48) = x.toNat from by omega]
      exact UInt8.ofNat_toNat
    cases l with
    | nil =>
      rw [numV_next, show numV [] = 0 from rfl, dec_one (by omega)]
      rw [show 10 * 0 + (x.toNat - 48) = x.toNat - 48 from by omega, ex]
      rfl
    | cons y t =>
      have hd : ∀ z, z ∈ y :: t → Digit z := fun z hz => h z (List.mem_append_left _ hz)
      have y0 : y ≠ 48 := fun e => h0 ⟨by simp, e⟩
      have p := numV_pos (y :: t) hd (by simp) y0
      have r := ih hd (by simp) fun z => y0 z.2
      rw [numV_next, dec_more (by omega), show (10 * numV (y :: t) + (x.toNat - 48)) / 10 = numV (y :: t) from by omega, r, show (10 * numV (y :: t) + (x.toNat - 48)) % 10 = x.toNat - 48 from by omega, ex]
theorem dec_numV (n : Nat) : numV (dec n) = n := by
  induction n using Nat.strongRecOn with
  | _ n ih =>
    by_cases h : n < 10
    · rw [dec_one h]
      show 10 * 0 + ((UInt8.ofNat (48 + n)).toNat - 48) = n
      rw [dig_nat h]; omega
    · rw [dec_more (by omega), numV_next, ih (n / 10) (by omega), dig_nat (by omega)]; omega
theorem dec_first (n : Nat) : 10 ≤ n → (dec n).getD 0 0 ≠ 48 := by
  induction n using Nat.strongRecOn with
  | _ n ih =>
    intro h
    rw [dec_more h]
    by_cases g : n / 10 < 10
    · rw [dec_one g]
      intro e
      have := congrArg UInt8.toNat (show UInt8.ofNat (48 + n / 10) = 48 from e)
      rw [dig_nat g] at this
      have : (48 : UInt8).toNat = 48 := rfl
      omega
    · have := ih (n / 10) (by omega) (by omega)
      cases e : dec (n / 10) with
      | nil => exact absurd e (dec_pos _)
      | cons y t => rw [e] at this; exact this
/-- a word that begins with a needless zero, or is too long, or is none -/
def BadHead (l : List UInt8) (most : Nat) : Prop := l = [] ∨ most < l.length ∨ (1 < l.length ∧ l.getD 0 0 = 48)
instance (l : List UInt8) (most : Nat) : Decidable (BadHead l most) := inferInstanceAs (Decidable (_ ∨ _ ∨ _))
/-- a word spells a number of so many digits at most -/
def Spells (l : List UInt8) (most : Nat) (n : Nat) : Prop := ¬ BadHead l most ∧ (∀ x, x ∈ l → Digit x) ∧ n = numV l
theorem Spells.dec {l : List UInt8} {most n : Nat} (h : Spells l most n) : l = dec n ∧ n < 10 ^ most := by
  obtain ⟨hb, hd, rfl⟩ := h
  have l0 : 0 < l.length := List.length_pos_iff.2 fun e => hb (.inl e)
  have lm : l.length ≤ most := Nat.le_of_not_lt fun e => hb (.inr (.inl e))
  exact ⟨(numV_dec l hd l0 fun e => hb (.inr (.inr e))).symm, Nat.lt_of_lt_of_le (numV_top l hd) (Nat.pow_le_pow_right (by decide) lm)⟩
theorem spells_dec (most n : Nat) (h : n < 10 ^ (most + 1)) : Spells (dec n) (most + 1) n := by
  refine ⟨fun z => ?_, fun x hx => dec_digit n x hx, (dec_numV n).symm⟩
  rcases z with z | z | z
  · exact dec_pos n z
  · have := dec_len most n h; omega
  · by_cases g : n < 10
    · rw [dec_one g] at z; exact absurd z.1 (by simp)
    · exact dec_first n (by omega) z.2
theorem Spells.one {l : List UInt8} {most n m : Nat} (h : Spells l most n) (g : Spells l most m) : n = m := h.2.2.trans g.2.2.symm

/-- the program's own letters of a form -/
def upL (c : UInt8) : UInt8 := if c = 100 then 68 else 78
def digsOf (c : UInt8) : Nat := if c = 68 then 1 else 7
/-- words that are just those of a form -/
def Parses (T : Nat → List UInt8) (k : Nat) (f : List UInt8) (N : Nat → Nat) : Prop := k = f.length ∧ ∀ i, i < k → Spells (T i) (digsOf (f.getD i 0)) (N i)
def natsTo (N : Nat → Nat) (k : Nat) : List Nat := (List.range k).map N
theorem natsTo_len (N : Nat → Nat) (k : Nat) : (natsTo N k).length = k := by simp [natsTo]
theorem natsTo_at (N : Nat → Nat) (k i : Nat) (h : i < k) : (natsTo N k).getD i 0 = N i := by simp [natsTo, List.getD, h]
theorem up_digs (f : List UInt8) (i : Nat) (h : i < f.length) : 10 ^ digsOf ((f.map upL).getD i 0) = mostOf f i + 1 := by
  have e : (f.map upL).getD i 0 = upL (f.getD i 0) := by simp [List.getD, h]
  rw [e]
  unfold upL mostOf
  by_cases c : f.getD i 0 = 100
  · rw [if_pos c, if_pos c]; rfl
  · rw [if_neg c, if_neg c]; rfl
theorem parses_cmd {s wd f : List UInt8} {rest : List (List UInt8)} {N : Nat → Nat} (hc : cuts s = wd :: rest) (hf : formL wd = some f) (hp : Parses (fun i => rest.getD i []) rest.length (f.map upL) N) :
    IsCmd wd (natsTo N rest.length) ∧ s = cmdText wd (natsTo N rest.length) := by
  obtain ⟨wd', rest', e1, e2⟩ := cuts_shape s
  rw [hc] at e1
  obtain ⟨rfl, rfl⟩ := List.cons.inj e1
  have hk : rest.length = f.length := by rw [hp.1, List.length_map]
  refine ⟨⟨f, hf, by rw [natsTo_len, hk], fun i hi => ?_⟩, ?_⟩
  · rw [natsTo_len] at hi
    rw [natsTo_at _ _ _ hi]
    have a := (hp.2 i hi).dec.2
    rw [up_digs f i (by omega)] at a
    omega
  · rw [e2]
    unfold cmdText
    rw [← glued_dec]
    congr 2
    apply List.ext_getElem
    · simp [natsTo]
    · intro i h1 h2
      have a := (hp.2 i h1).dec.1
      simp only [List.getD_eq_getElem?_getD, List.getElem?_eq_getElem h1, Option.getD_some] at a
      simp [natsTo, a]
theorem noform_cmd {s wd : List UInt8} {rest : List (List UInt8)} (hc : cuts s = wd :: rest) (hf : formL wd = none) : ∀ wd' ns, IsCmd wd' ns → s ≠ cmdText wd' ns := by
  rintro wd' ns ⟨f, hf', _⟩ rfl
  rw [cuts_cmd ns wd' (word_noblank hf')] at hc
  rw [← (List.cons.inj hc).1, hf'] at hf
  cases hf
theorem noparse_cmd {s wd f : List UInt8} {rest : List (List UInt8)} (hc : cuts s = wd :: rest) (hf : formL wd = some f) (hp : ∀ N, ¬ Parses (fun i => rest.getD i []) rest.length (f.map upL) N) : ∀ wd' ns, IsCmd wd' ns → s ≠ cmdText wd' ns := by
  rintro wd' ns ⟨f', hf', hl, hn⟩ rfl
  rw [cuts_cmd ns wd' (word_noblank hf')] at hc
  obtain ⟨rfl, rfl⟩ := List.cons.inj hc
  rw [hf'] at hf
  obtain rfl := Option.some.inj hf
  refine hp (fun i => ns.getD i 0) ⟨by simp [hl], fun i hi => ?_⟩
  rw [List.length_map] at hi
  have e : (ns.map dec).getD i [] = dec (ns.getD i 0) := by simp [List.getD, hi]
  show Spells ((ns.map dec).getD i []) _ _
  rw [e]
  have t := up_digs f' i (by omega)
  have u := hn i hi
  obtain ⟨m, hm⟩ : ∃ m, digsOf ((f'.map upL).getD i 0) = m + 1 := by
    unfold digsOf
    split
    · exact ⟨0, rfl⟩
    · exact ⟨6, rfl⟩
  rw [hm] at t ⊢
  exact spells_dec m _ (by rw [t]; omega)
end Go.Proofs.YtmbfdhekplnoaaaGreatDoor

namespace Go.Proofs.YtmbfdhekplnoaaaGreatDoor
open Go.RowKit Go.Maps

/-- a command as a value: its form, and a function that has one variable of its own -/
abbrev cmdV (fm : List UInt8) (f b : Nat) : Value := .agg #[.string (bs fm), .func (.func f) #[] #[.pointer (some ⟨b, 0, none⟩)]]
/-- how such a value reads -/
def fnElem (s : List UInt8) (v : Value) : Option (DataW Unit × List MemPlace) := match v with
  | .func (.func f) a c => match a.toList, c.toList with
    | [], [.pointer (some ⟨b, 0, none⟩)] => some (.agg [.lit (.string s), .lit (.int .i64 f), .lit (.int .i64 b)], [])
    | _, _ => none
  | .nilFunc => some (.lit (.string s), [])
  | _ => none
def cmdElem (v : Value) : Option (DataW Unit × List MemPlace) := match v with
  | .agg cs => match cs.toList with
    | [.string s, u] => fnElem s.data.toList u
    | _ => none
  | _ => none
def cmdD (x : List UInt8 × Nat × Nat) : DataW Unit := .agg [.lit (.string x.1), .lit (.int .i64 x.2.1), .lit (.int .i64 x.2.2)]
theorem cmdElem_mk (fm : List UInt8) (f b : Nat) : cmdElem (cmdV fm f b) = some (cmdD (fm, f, b), []) := by
  show some ((.agg [.lit (.string (bs fm).data.toList), .lit (.int .i64 (f : Int)), .lit (.int .i64 (b : Int))] : DataW Unit), []) = _
  rw [show (bs fm).data.toList = fm from by simp [bs]]
  rfl
theorem arr_of {α : Type} {a : Array α} {l : List α} (h : a.toList = l) : a = l.toArray := by rw [← h]
theorem fnElem_inv {s : List UInt8} {v : Value} {y : DataW Unit × List MemPlace} (h : fnElem s v = some y) : (∃ f b : Nat, v = .func (.func f) #[] #[.pointer (some ⟨b, 0, none⟩)] ∧ y = (cmdD (s, f, b), [])) ∨ (v = .nilFunc ∧ y = (.lit (.string s), [])) := by
  unfold fnElem at h
  split at h
  · rename_i f a c
    split at h
    · rename_i b ha hc
      rw [arr_of ha, arr_of hc]
      exact .inl ⟨f, b, rfl, (Option.some.inj h).symm⟩
    · cases h
  · exact .inr ⟨rfl, (Option.some.inj h).symm⟩
  · cases h
theorem cmdElem_inv {v : Value} {y : DataW Unit × List MemPlace} (h : cmdElem v = some y) : (∃ fm f b, v = cmdV fm f b ∧ y = (cmdD (fm, f, b), [])) ∨ ∃ s, v = .agg #[.string s, .nilFunc] ∧ y = (.lit (.string s.data.toList), []) := by
  unfold cmdElem at h
  split at h
  · split at h
    · rename_i hc
      rw [arr_of hc]
      rcases fnElem_inv h with ⟨f, b, rfl, e⟩ | ⟨rfl, e⟩
      · exact .inl ⟨_, f, b, rfl, e⟩
      · exact .inr ⟨_, rfl, e⟩
    · cases h
  · cases h
theorem cmdD_inj {x y : List UInt8 × Nat × Nat} (h : cmdD x = cmdD y) : x = y := by
  obtain ⟨a, b, c⟩ := x
  obtain ⟨a', b', c'⟩ := y
  simp only [cmdD, DataW.agg.injEq, List.cons.injEq, DataW.lit.injEq, Lit.string.injEq, Lit.int.injEq, true_and, and_true] at h
  obtain ⟨rfl, e1, e2⟩ := h
  obtain rfl : b = b' := by omega
  obtain rfl : c = c' := by omega
  rfl
theorem word_keyed : Keyed Tryz.prog 9 := string_keyed Tryz.underlying9
theorem word_key (l : List UInt8) (h : l.length ≤ 200) : keyOf Tryz.prog 9 (.string (bs l)) = some (.string l) := by
  rw [WideMaps.keyOf_string_mk Tryz.underlying9 (by rw [bs_size]; unfold maxLen; omega)]
  simp [bs]
/-- the map of these commands -/
def OwnC (w : World) (m : Nat) (F : List UInt8 → Option (List UInt8 × Nat × Nat)) (g : Nat) : Prop :=
  ∃ (n : Nat) (D : DataW Unit), w.ownsMap Tryz.prog 9 cmdElem m n D ∧ n ≤ g ∧ (∀ k, Maps.has D (.string k) = (F k).isSome) ∧ ∀ k x, F k = some x → ∀ z, D.atKey (.string k) z = cmdD x
theorem OwnC.of_block {w w' : World} {m g : Nat} {F : List UInt8 → Option (List UInt8 × Nat × Nat)} (h : OwnC w m F g) (hb : w'.heap[m]? = w.heap[m]?) : OwnC w' m F g := by
  obtain ⟨n, D, ⟨es, clock, hes, Ft, hs, hD⟩, r⟩ := h
  exact ⟨n, D, ⟨es, clock, hb.trans hes, Ft, hs, hD⟩, r⟩
theorem OwnC.lt {w : World} {m g : Nat} {F : List UInt8 → Option (List UInt8 × Nat × Nat)} (h : OwnC w m F g) : m < w.heap.size := by
  obtain ⟨n, D, hown, _⟩ := h
  exact hown.lt
theorem ownC_made (w : World) : OwnC (w.alloc (.map #[] 0)) w.heap.size (fun _ => none) 0 :=
  ⟨0, _, World.ownsMap_made w Tryz.prog 9 cmdElem, Nat.le_refl _, fun k => rfl, fun k x h => by cases h⟩
/-- one more command -/
def moreC (F : List UInt8 → Option (List UInt8 × Nat × Nat)) (k : List UInt8) (x : List UInt8 × Nat × Nat) (l : List UInt8) : Option (List UInt8 × Nat × Nat) := if l = k then some x else F l
theorem OwnC.ins {w : World} {m g : Nat} {F : List UInt8 → Option (List UInt8 × Nat × Nat)} (h : OwnC w m F g) (hg : g ≤ 100) (k : List UInt8) (hk : k.length ≤ 200) (fm : List UInt8) (f b : Nat) :
    ∃ w', (Instr.mapUpdate 69 (.map (some m)) (.string (bs k)) (cmdV fm f b)).run Tryz.prog w = .ok () w' ∧ OwnC w' m (moreC F k (fm, f, b)) (g + 1) ∧ Kept [m] w w' := by
  obtain ⟨n, D, hown, hn, h1, h2⟩ := h
  have hmap := hown.isMap
  obtain ⟨w', hr, ho, hgr⟩ := hown.update word_keyed Tryz.underlying69 (by unfold maxLen; omega) (word_key k hk) (cmdElem_mk fm f b)
  refine ⟨w', hr, ⟨n + 1, _, ho, by omega, fun l => ?_, fun l x hx z => ?_⟩, ⟨hgr.os, hgr.tape, hgr.output, hgr.size, fun i hi hx => hgr.block i hi (fun e => hx (by cases e; simp))⟩⟩
  · unfold moreC
    by_cases e : l = k
    · subst e; rw [has_put_same hmap (k := .string l) trivial, if_pos rfl]; rfl
    · rw [has_put_other (fun q => e (by cases q; rfl)), if_neg e]; exact h1 l
  · unfold moreC at hx
    by_cases e : l = k
    · subst e
      rw [if_pos rfl] at hx
      rw [atKey_put_same hmap (k := .string l) trivial, Option.some.inj hx]
    · rw [if_neg e] at hx
      rw [atKey_put_other (fun q => e (by cases q; rfl))]
      exact h2 l x hx z
/-- looked up -/
theorem OwnC.look {w : World} {m g : Nat} {F : List UInt8 → Option (List UInt8 × Nat × Nat)} (h : OwnC w m F g) (k : List UInt8) (hk : k.length ≤ 200) :
    ∃ v, (Instr.lookup 69 (.map (some m)) (.string (bs k)) true).run Tryz.prog w = .ok (.tuple #[v, .bool (F k).isSome]) w ∧ (∀ x, F k = some x → v = cmdV x.1 x.2.1 x.2.2) ∧ ((∃ fm f b, v = cmdV fm f b) ∨ ∃ s, v = .agg #[.string s, .nilFunc]) := by
  obtain ⟨n, D, hown, hn, h1, h2⟩ := h
  obtain ⟨v, ps, hrun, hv⟩ := hown.look_ok word_keyed Tryz.underlying69 (z := .agg #[.string { data := #[] }, .nilFunc]) (by kernel_rfl) (zd := .lit (.string [])) (zp := []) rfl (word_key k hk)
  rw [h1 k] at hrun
  refine ⟨v, hrun, fun x hx => ?_, ?_⟩
  · rw [h2 k x hx] at hv
    rcases cmdElem_inv hv with ⟨fm, f, b, rfl, e⟩ | ⟨s, rfl, e⟩
    · rw [cmdD_inj (congrArg Prod.fst e)]
    · have := congrArg Prod.fst e
      cases this
  · rcases cmdElem_inv hv with ⟨fm, f, b, rfl, _⟩ | ⟨s, rfl, _⟩
    · exact .inl ⟨_, _, _, rfl⟩
    · exact .inr ⟨_, rfl⟩
end Go.Proofs.YtmbfdhekplnoaaaGreatDoor

namespace Go.Proofs.YtmbfdhekplnoaaaGreatDoor
open Go.RowKit

/-- of what was there only such blocks may have turned -/
structure KeptP (F : Nat → Prop) (w w' : World) : Prop where
  os : w'.os = w.os
  tape : w'.tape = w.tape
  output : w'.output = w.output
  size : w.heap.size ≤ w'.heap.size
  block : ∀ k, k < w.heap.size → ¬ F k → w'.heap[k]? = w.heap[k]?
theorem KeptP.refl (F : Nat → Prop) (w : World) : KeptP F w w := ⟨rfl, rfl, rfl, Nat.le_refl _, fun _ _ _ => rfl⟩
theorem KeptP.mono {F G : Nat → Prop} {a b : World} (h : KeptP F a b) (hs : ∀ k, k < a.heap.size → F k → G k) : KeptP G a b :=
  ⟨h.os, h.tape, h.output, h.size, fun i hi hx => h.block i hi (fun g => hx (hs i hi g))⟩
/-- what a second step turns beside is new -/
theorem KeptP.trans {F G : Nat → Prop} {a b c : World} (h : KeptP F a b) (k : KeptP G b c) (hg : ∀ i, i < a.heap.size → G i → F i) : KeptP F a c :=
  ⟨k.os.trans h.os, k.tape.trans h.tape, k.output.trans h.output, Nat.le_trans h.size k.size, fun i hi hx => (k.block i (Nat.lt_of_lt_of_le hi h.size) (fun g => hx (hg i hi g))).trans (h.block i hi hx)⟩
theorem KeptP.drewN {F : Nat → Prop} {a w : World} (h : KeptP F a w) (n : Nat) : KeptP F a (w.drewN n) := ⟨h.os, h.tape, h.output, h.size, h.block⟩
theorem KeptP.drew {F : Nat → Prop} {a w : World} (h : KeptP F a w) : KeptP F a w.drew := ⟨h.os, h.tape, h.output, h.size, h.block⟩
theorem KeptP.setCell {F : Nat → Prop} {a w : World} (h : KeptP F a w) {p : Addr} (hp : F p.block) (u : Value) : KeptP F a (w.setCell p u) :=
  h.trans (G := F) ⟨rfl, rfl, rfl, by simp [World.setCell], fun k _ hk => Below.heap_setCell _ _ _ _ (fun e => hk (by rw [e]; exact hp))⟩ fun _ _ g => g
theorem KeptP.of_below {F : Nat → Prop} {w w' : World} (h : Below w.heap.size w w') : KeptP F w w' := ⟨h.os, h.tape, h.output, h.size, fun k hk _ => h.block k hk⟩
theorem KeptP.of_kept {F : Nat → Prop} {X : List Nat} {w w' : World} (h : Kept X w w') (hx : ∀ k, k ∈ X → F k) : KeptP F w w' := ⟨h.os, h.tape, h.output, h.size, fun k hk hF => h.block k hk (fun g => hF (hx k g))⟩
theorem KeptP.below {F : Nat → Prop} {B : Nat} {w w' : World} (h : KeptP F w w') (hB : B ≤ w.heap.size) (hX : ∀ k, F k → B ≤ k) : Below B w w' :=
  ⟨h.os, h.tape, h.output, h.size, fun k hk => h.block k (by omega) (fun g => by have := hX k g; omega)⟩
theorem KeptP.cell {F : Nat → Prop} {w w' : World} (h : KeptP F w w') {p : Addr} (hp : p.block < w.heap.size) (hx : ¬ F p.block) : w'.cell? p = w.cell? p := World.cell?_of_block (w := w) (h.block p.block hp hx)
theorem KeptP.frozen {F : Nat → Prop} {w w' : World} (h : KeptP F w w') {p : Addr} (hp : p.block < w.heap.size) (hx : ¬ F p.block) : w'.frozen? p = w.frozen? p := World.frozen?_of_block (w := w) (h.block p.block hp hx)
theorem KeptP.old {F : Nat → Prop} {w w' : World} (h : KeptP F w w') {p : Addr} {v : Value} (hc : w.cell? p = some v) (hx : ¬ F p.block) : w'.cell? p = some v := by rw [h.cell (cell_lt hc) hx]; exact hc
/-- some blocks alone -/
theorem KeptP.kept {F : Nat → Prop} {w w' : World} (h : KeptP F w w') : Below 0 w w' := ⟨h.os, h.tape, h.output, h.size, fun k hk => by omega⟩
/-- what a step did: of what was there only its own has turned, and all that it has now it had, or it is new -/
structure Moved (F F' : Nat → Prop) (w w' : World) : Prop where
  kept : KeptP F w w'
  old : ∀ k, k < w.heap.size → F' k → F k
theorem Moved.refl (F : Nat → Prop) (w : World) : Moved F F w w := ⟨KeptP.refl _ _, fun _ _ h => h⟩
theorem Moved.trans {F F' F'' : Nat → Prop} {a b c : World} (h : Moved F F' a b) (k : Moved F' F'' b c) : Moved F F'' a c :=
  ⟨h.kept.trans k.kept h.old, fun i hi g => h.old i hi (k.old i (Nat.lt_of_lt_of_le hi h.kept.size) g)⟩
theorem Moved.drewN {F F' : Nat → Prop} {a w : World} (h : Moved F F' a w) (n : Nat) : Moved F F' a (w.drewN n) := ⟨h.kept.drewN n, h.old⟩
theorem Moved.drew {F F' : Nat → Prop} {a w : World} (h : Moved F F' a w) : Moved F F' a w.drew := ⟨h.kept.drew, h.old⟩
theorem drewN_twice (w : World) (m n : Nat) : (w.drewN m).drewN n = w.drewN (m + n) := by simp [World.drewN, Nat.add_assoc]
theorem ownsRow_keptP {B : Nat} {w w' : World} {e : TypeId} {size n : Nat} {v : Value} {xs : List Value} {F : Nat → Prop} (h : w.ownsRow B e size v n xs) (hK : KeptP F w w') (hv : ∀ g, v.ownBlock = some g → ¬ F g) : w'.ownsRow B e size v n xs := by
  refine ⟨h.1, ?_⟩
  rcases h.2 with g | ⟨g, cap, cur, rfl, hb, hg, h1, h2, h3, h4⟩
  · exact .inl g
  · refine .inr ⟨g, cap, cur, rfl, hb, ?_, h1, h2, h3, h4⟩
    have hlt : g < w.heap.size := by
      rcases Nat.lt_or_ge g w.heap.size with l | l
      · exact l
      · rw [Array.getElem?_eq_none l] at hg; cases hg
    rw [hK.block g hlt (hv g rfl)]
    exact hg
theorem step_append_by {P : Program} {ops : Array Oper} {o : Oper} {a : Act} {w : World} {K : Act → World → Prop} {Q : Exit → Act → World → Prop} {E : Prop} (hg : o.guard = none) (s x : Operand) (t : TypeId)
    (ho : o.op = .call { callee := .builtin .append, args := #[s, x], argTypes := #[t, t] }) (vs vx : Value) (hs : a.eval s = vs) (hx : a.eval x = vx) (v' : Value) (w' : World)
    (hr : (Builtin.append_ #[t, t] o.type #[vs, vx]).run P w = .ok v' w') (h : K (a.put o.dst v') w') : if Region.wanted o (yielded ops a.tmps) = true then Oper.wp P o a w K Q else E := by
  have hw : Region.wanted o (yielded ops a.tmps) = true := by simp [Region.wanted, hg]
  rw [if_pos hw]
  unfold Oper.wp execOp
  simp only [ho, resolve, invoke, builtin, Sem.run_bind, Sem.run_pure, Result.andThen_ok, List.map_toArray, List.map_cons, List.map_nil, hs, hx, hr]
  exact h
end Go.Proofs.YtmbfdhekplnoaaaGreatDoor

namespace Go.Proofs.YtmbfdhekplnoaaaGreatDoor
open Go.RowKit

/-- what is its own lies behind B -/
structure Mine (B : Nat) (w0 w : World) (F : Nat → Prop) : Prop where
  f : ∀ k, F k → B ≤ k
  below : Below B w0 w
  size : B ≤ w.heap.size
theorem Mine.next {B : Nat} {w0 w w' : World} {F F' : Nat → Prop} (h : Mine B w0 w F) (hM : Moved F F' w w') : Mine B w0 w' F' := by
  refine ⟨fun k hk => ?_, h.below.trans (hM.kept.below h.size h.f), Nat.le_trans h.size hM.kept.size⟩
  rcases Nat.lt_or_ge k w.heap.size with l | l
  · exact h.f k (hM.old k l hk)
  · exact Nat.le_trans h.size l
theorem Mine.nextB {B : Nat} {w0 w w' : World} {F : Nat → Prop} (h : Mine B w0 w F) (k : Below w.heap.size w w') : Mine B w0 w' F :=
  ⟨h.f, h.below.trans (k.mono h.size), Nat.le_trans h.size k.size⟩
theorem Mine.drewN {B : Nat} {w0 w : World} {F : Nat → Prop} (h : Mine B w0 w F) (n : Nat) : Mine B w0 (w.drewN n) F := h.nextB (below_drewN (Below.refl _ _) n)
theorem Mine.new {w w' : World} {F : Nat → Prop} (hF : ∀ k, F k → w.heap.size ≤ k) (hB : Below w.heap.size w w') : Mine w.heap.size w w' F := ⟨hF, hB, hB.size⟩
/-- what lies apart, and behind B -/
structure Sides (B : Nat) (w0 w : World) (F G : Nat → Prop) : Prop where
  apart : ∀ k, F k → ¬ G k
  f : ∀ k, F k → B ≤ k
  g : ∀ k, G k → B ≤ k
  below : Below B w0 w
  size : B ≤ w.heap.size
theorem Sides.nextB {B : Nat} {w0 w w' : World} {F G : Nat → Prop} (h : Sides B w0 w F G) (k : Below w.heap.size w w') : Sides B w0 w' F G :=
  ⟨h.apart, h.f, h.g, h.below.trans (k.mono h.size), Nat.le_trans h.size k.size⟩
theorem Sides.drewN {B : Nat} {w0 w : World} {F G : Nat → Prop} (h : Sides B w0 w F G) (n : Nat) : Sides B w0 (w.drewN n) F G := h.nextB (below_drewN (Below.refl _ _) n)
/-- a cell of another's -/
theorem Moved.cell {F F' : Nat → Prop} {w w' : World} (h : Moved F F' w w') {p : Addr} {v : Value} (hc : w.cell? p = some v) (hx : ¬ F p.block) : w'.cell? p = some v := h.kept.old hc hx
/-- a step of the first, of the second -/
theorem Sides.one {B : Nat} {w0 w w' : World} {F F' G : Nat → Prop} (h : Sides B w0 w F G) (hlt : ∀ k, G k → k < w.heap.size) (hM : Moved F F' w w') : Sides B w0 w' F' G := by
  refine ⟨fun k hk hg => ?_, fun k hk => ?_, h.g, h.below.trans (hM.kept.below h.size h.f), Nat.le_trans h.size hM.kept.size⟩
  · exact h.apart k (hM.old k (hlt k hg) hk) hg
  · rcases Nat.lt_or_ge k w.heap.size with l | l
    · exact h.f k (hM.old k l hk)
    · exact Nat.le_trans h.size l
theorem Sides.two {B : Nat} {w0 w w' : World} {F G G' : Nat → Prop} (h : Sides B w0 w F G) (hlt : ∀ k, F k → k < w.heap.size) (hM : Moved G G' w w') : Sides B w0 w' F G' := by
  refine ⟨fun k hk hg => ?_, h.f, fun k hk => ?_, h.below.trans (hM.kept.below h.size h.g), Nat.le_trans h.size hM.kept.size⟩
  · exact h.apart k hk (hM.old k (hlt k hk) hg)
  · rcases Nat.lt_or_ge k w.heap.size with l | l
    · exact h.g k (hM.old k l hk)
    · exact Nat.le_trans h.size l
end Go.Proofs.YtmbfdhekplnoaaaGreatDoor

namespace Go.Proofs.YtmbfdhekplnoaaaGreatDoor
open Go.RowKit

/-- tags anew, where the part t has become G -/
noncomputable def retag (tag : Nat → Nat) (t : Nat) (G : Nat → Prop) : Nat → Nat := fun k => open Classical in if G k then t else if tag k = t then 0 else tag k
theorem retag_is {tag : Nat → Nat} {t : Nat} {G : Nat → Prop} {k : Nat} (h : G k) : retag tag t G k = t := if_pos h
theorem retag_not {tag : Nat → Nat} {t : Nat} {G : Nat → Prop} {k : Nat} (h : ¬ G k) (n : tag k ≠ t) : retag tag t G k = tag k := by unfold retag; rw [if_neg h, if_neg n]
theorem retag_iff {tag : Nat → Nat} {t : Nat} {G : Nat → Prop} (ht : t ≠ 0) (k : Nat) : retag tag t G k = t ↔ G k := by
  refine ⟨fun e => ?_, retag_is⟩
  by_cases g : G k
  · exact g
  · unfold retag at e
    rw [if_neg g] at e
    split at e
    · exact absurd e.symm ht
    · rename_i n; exact absurd e n
theorem retag_other {tag : Nat → Nat} {t u : Nat} {w w' : World} {G : Nat → Prop} (hM : Moved (fun k => tag k = t) G w w') (hl : ∀ k, tag k ≠ 0 → k < w.heap.size) (ut : u ≠ t) (u0 : u ≠ 0) {k : Nat} (h : tag k = u) : retag tag t G k = u := by
  have n : tag k ≠ t := by rw [h]; exact ut
  rw [retag_not (fun g => n (hM.old k (hl k (by rw [h]; exact u0)) g)) n, h]
theorem retag_back {tag : Nat → Nat} {t u : Nat} {G : Nat → Prop} (ut : u ≠ t) (u0 : u ≠ 0) {k : Nat} (h : retag tag t G k = u) : tag k = u := by
  unfold retag at h
  split at h
  · exact absurd h.symm ut
  · split at h
    · exact absurd h.symm u0
    · exact h
theorem retag_iff' {tag : Nat → Nat} {t u : Nat} {w w' : World} {G : Nat → Prop} (hM : Moved (fun k => tag k = t) G w w') (hl : ∀ k, tag k ≠ 0 → k < w.heap.size) (ut : u ≠ t) (u0 : u ≠ 0) : (fun k => retag tag t G k = u) = (fun k => tag k = u) := by
  funext k
  exact propext ⟨retag_back ut u0, retag_other hM hl ut u0⟩
theorem retag_moved {tag : Nat → Nat} {t : Nat} {w w' : World} {F G : Nat → Prop} (hF : ∀ k, F k ↔ tag k ≠ 0) (hM : Moved (fun k => tag k = t) G w w') (t0 : t ≠ 0) : Moved F (fun k => retag tag t G k ≠ 0) w w' := by
  refine ⟨hM.kept.mono fun k _ e => (hF k).2 (by rw [e]; exact t0), fun k hk h => ?_⟩
  by_cases g : G k
  · exact (hF k).2 (by rw [hM.old k hk g]; exact t0)
  · unfold retag at h
    rw [if_neg g] at h
    split at h
    · exact absurd rfl h
    · exact (hF k).2 h
end Go.Proofs.YtmbfdhekplnoaaaGreatDoor

namespace Go.Proofs.YtmbfdhekplnoaaaGreatDoor
open Go.RowKit

theorem owner_yes (o : Int) (h0 : 0 ≤ o) (h6 : o < 6) (w : World) :
    Calls Tryz.prog 202 #[.int .i64 o] w fun e w' => e = .returned (.bool true) ∧ w' = w := by
  go_enter Tryz.func202, Tryz.ntmps202
  go_wp2
  go_ret
  exact ⟨rfl, rfl⟩
theorem owner_no (o : Int) (h : ¬ (0 ≤ o ∧ o < 6)) (w : World) :
    Calls Tryz.prog 202 #[.int .i64 o] w fun e w' => e = .returned (.bool false) ∧ w' = w := by
  by_cases h0 : 0 ≤ o
  · have h6 : ¬ o < 6 := by omega
    clear h
    go_enter Tryz.func202, Tryz.ntmps202
    go_wp2
    go_ret
    exact ⟨rfl, rfl⟩
  · clear h
    go_enter Tryz.func202, Tryz.ntmps202
    go_wp2
    go_ret
    exact ⟨rfl, rfl⟩
theorem some_yes (n : Int) (h0 : 1 ≤ n) (h1 : n ≤ 1125899906842624) (w : World) :
    Calls Tryz.prog 268 #[.int .i64 n] w fun e w' => e = .returned (.bool true) ∧ w' = w := by
  go_enter Tryz.func268, Tryz.ntmps268
  go_wp2
  go_ret
  exact ⟨rfl, rfl⟩
theorem some_no (n : Int) (h : ¬ (1 ≤ n ∧ n ≤ 1125899906842624)) (w : World) :
    Calls Tryz.prog 268 #[.int .i64 n] w fun e w' => e = .returned (.bool false) ∧ w' = w := by
  by_cases h0 : 1 ≤ n
  · have h1 : ¬ n ≤ 1125899906842624 := by omega
    clear h
    go_enter Tryz.func268, Tryz.ntmps268
    go_wp2
    go_ret
    exact ⟨rfl, rfl⟩
  · clear h
    go_enter Tryz.func268, Tryz.ntmps268
    go_wp2
    go_ret
    exact ⟨rfl, rfl⟩
theorem amount_yes (n : Int) (h0 : 0 ≤ n) (h1 : n ≤ 1125899906842624) (w : World) :
    Calls Tryz.prog 203 #[.int .i64 n] w fun e w' => e = .returned (.bool true) ∧ w' = w := by
  go_enter Tryz.func203, Tryz.ntmps203
  go_wp2
  go_ret
  exact ⟨rfl, rfl⟩
theorem amount_no (n : Int) (h : ¬ (0 ≤ n ∧ n ≤ 1125899906842624)) (w : World) :
    Calls Tryz.prog 203 #[.int .i64 n] w fun e w' => e = .returned (.bool false) ∧ w' = w := by
  by_cases h0 : 0 ≤ n
  · have h1 : ¬ n ≤ 1125899906842624 := by omega
    clear h
    go_enter Tryz.func203, Tryz.ntmps203
    go_wp2
    go_ret
    exact ⟨rfl, rfl⟩
  · clear h
    go_enter Tryz.func203, Tryz.ntmps203
    go_wp2
    go_ret
    exact ⟨rfl, rfl⟩
end Go.Proofs.YtmbfdhekplnoaaaGreatDoor

namespace Go.Proofs.YtmbfdhekplnoaaaGreatDoor

/-- a sentinel's value: a pointer to an errors.errorString -/
abbrev sent (a : Addr) : Value := .iface 366 (.pointer (some a))
theorem drew_cell (w : World) (n : Nat) (a : Addr) : (w.drewN n).cell? a = w.cell? a := by simp
end Go.Proofs.YtmbfdhekplnoaaaGreatDoor

namespace Go.Proofs.YtmbfdhekplnoaaaGreatDoor

/-- an error's value, by its number -/
def ErrIs (A : Nat → Addr) (e : Value) (c : Int) : Prop := (c = 0 ∧ e = .nilIface) ∨ ∃ i : Nat, i < 10 ∧ c = i + 1 ∧ e = sent (A i)
end Go.Proofs.YtmbfdhekplnoaaaGreatDoor

namespace Go.Proofs.YtmbfdhekplnoaaaGreatDoor
open Go.RowKit

/-- what the purse's errors hold -/
structure PurLaid (w : World) (A : Nat → Addr) : Prop where
  v1 : w.cell? ⟨0, 0, none⟩ = some (sent (A 1))
  v5 : w.cell? ⟨5, 0, none⟩ = some (sent (A 5))
theorem PurLaid.below {w w' : World} {A : Nat → Addr} (h : PurLaid w A) (hB : Below w.heap.size w w') : PurLaid w' A :=
  ⟨by rw [hB.cell (cell_lt h.v1)]; exact h.v1, by rw [hB.cell (cell_lt h.v5)]; exact h.v5⟩
theorem PurLaid.drewN {w : World} {A : Nat → Addr} (h : PurLaid w A) (n : Nat) : PurLaid (w.drewN n) A := h.below (below_drewN (Below.refl _ _) n)
theorem err_none (A : Nat → Addr) {c : Int} (h : c = 0) : ErrIs A .nilIface c := .inl ⟨h, rfl⟩
theorem err_bound (A : Nat → Addr) {c : Int} (h : c = 2) : ErrIs A (sent (A 1)) c := .inr ⟨1, by omega, by omega, rfl⟩
theorem err_short (A : Nat → Addr) {c : Int} (h : c = 6) : ErrIs A (sent (A 5)) c := .inr ⟨5, by omega, by omega, rfl⟩

/-- six numbers, and a seventh -/
structure PRaw (w : World) (b : Nat) (f : Int → Int) (N : Int) : Prop where
  s : ∀ i : Nat, i < 6 → w.cell? ⟨b, i, none⟩ = some (.int .i64 (f i))
  c6 : w.cell? ⟨b, 6, none⟩ = some (.int .i64 N)
  f : ∀ i : Nat, w.frozen? ⟨b, i, none⟩ = false
theorem PRaw.drewN {w : World} {b : Nat} {f : Int → Int} {N : Int} (h : PRaw w b f N) (n : Nat) : PRaw (w.drewN n) b f N := ⟨h.s, h.c6, h.f⟩
theorem PRaw.drew {w : World} {b : Nat} {f : Int → Int} {N : Int} (h : PRaw w b f N) : PRaw w.drew b f N := ⟨h.s, h.c6, h.f⟩
theorem PRaw.setN {w : World} {b : Nat} {f : Int → Int} {N : Int} (h : PRaw w b f N) (v : Int) : PRaw (w.setCell ⟨b, 6, none⟩ (.int .i64 v)) b f v where
  s := fun i hi => by rw [World.cell?_setCell_other _ _ _ _ (fun e => absurd (congrArg Addr.off e) (show ¬ 6 = i by omega))]; exact h.s i hi
  c6 := World.cell?_setCell_same _ _ _ h.c6
  f := fun i => by rw [World.frozen?_setCell]; exact h.f i
theorem PRaw.setO {w : World} {b : Nat} {f : Int → Int} {N : Int} (h : PRaw w b f N) (k : Nat) (hk : k < 6) (v : Int) : PRaw (w.setCell ⟨b, k, none⟩ (.int .i64 v)) b (put f k v) N where
  s := fun i hi => by
    by_cases e : i = k
    · subst e
      rw [World.cell?_setCell_same _ _ _ (h.s i hi), put_same]
    · rw [World.cell?_setCell_other _ _ _ _ (by simp; try omega), put_other _ _ _ _ (by omega)]; exact h.s i hi
  c6 := by rw [World.cell?_setCell_other _ _ _ _ (fun e => absurd (congrArg Addr.off e) (show ¬ k = 6 by omega))]; exact h.c6
  f := fun i => by rw [World.frozen?_setCell]; exact h.f i

/-- the program's purse, as it lies in memory: what each may spend, and what is nobody's -/
structure PurAt (w : World) (b : Nat) (x : Pu) : Prop where
  raw : PRaw w b x.s (x.S - x.sum)
  ok : x.Ok
theorem PurAt.drewN {w : World} {b : Nat} {x : Pu} (h : PurAt w b x) (n : Nat) : PurAt (w.drewN n) b x := ⟨h.raw.drewN n, h.ok⟩
theorem PurAt.lt {w : World} {b : Nat} {x : Pu} (h : PurAt w b x) : b < w.heap.size := cell_lt h.raw.c6
theorem PurAt.kept {w w' : World} {b : Nat} {x : Pu} {X : List Nat} (h : PurAt w b x) (hK : Kept X w w') (hb : b ∉ X) : PurAt w' b x where
  raw := ⟨fun i hi => hK.old (h.raw.s i hi) hb, hK.old h.raw.c6 hb, fun i => by rw [hK.frozen (p := ⟨b, i, none⟩) h.lt hb]; exact h.raw.f i⟩
  ok := h.ok

/-- what is nobody's, and the first so many owners' -/
def preS (N : Int) (f : Int → Int) : Nat → Int
  | 0 => N
  | k + 1 => preS N f k + f k
theorem preS_six (x : Pu) : preS (x.S - x.sum) x.s 6 = x.S := by simp [preS, Pu.sum]; omega
theorem preS_bd {x : Pu} (h : x.Ok) : ∀ k, k ≤ 6 → 0 ≤ preS (x.S - x.sum) x.s k ∧ preS (x.S - x.sum) x.s k ≤ x.S
  | 0, _ => ⟨by have := h.le; simp only [preS]; omega, by have := h.sum0; simp only [preS]; omega⟩
  | k + 1, hk => by
    have h0 := h.pos 0
    have h1 := h.pos 1
    have h2 := h.pos 2
    have h3 := h.pos 3
    have h4 := h.pos 4
    have h5 := h.pos 5
    have hl := h.le
    unfold Pu.sum at hl
    have : k = 0 ∨ k = 1 ∨ k = 2 ∨ k = 3 ∨ k = 4 ∨ k = 5 := by omega
    rcases this with rfl | rfl | rfl | rfl | rfl | rfl <;> (simp [preS, Pu.sum]; omega)
theorem six_at0 (f : Int → Int) (w : World) : (Instr.index 265 (.agg #[.int .i64 (f 0), .int .i64 (f 1), .int .i64 (f 2), .int .i64 (f 3), .int .i64 (f 4), .int .i64 (f 5)]) (.int .i64 0)).run Tryz.prog w = .ok (.int .i64 (f 0)) w := by kernel_rfl
theorem six_at1 (f : Int → Int) (w : World) : (Instr.index 265 (.agg #[.int .i64 (f 0), .int .i64 (f 1), .int .i64 (f 2), .int .i64 (f 3), .int .i64 (f 4), .int .i64 (f 5)]) (.int .i64 1)).run Tryz.prog w = .ok (.int .i64 (f 1)) w := by kernel_rfl
theorem six_at2 (f : Int → Int) (w : World) : (Instr.index 265 (.agg #[.int .i64 (f 0), .int .i64 (f 1), .int .i64 (f 2), .int .i64 (f 3), .int .i64 (f 4), .int .i64 (f 5)]) (.int .i64 2)).run Tryz.prog w = .ok (.int .i64 (f 2)) w := by kernel_rfl
theorem six_at3 (f : Int → Int) (w : World) : (Instr.index 265 (.agg #[.int .i64 (f 0), .int .i64 (f 1), .int .i64 (f 2), .int .i64 (f 3), .int .i64 (f 4), .int .i64 (f 5)]) (.int .i64 3)).run Tryz.prog w = .ok (.int .i64 (f 3)) w := by kernel_rfl
theorem six_at4 (f : Int → Int) (w : World) : (Instr.index 265 (.agg #[.int .i64 (f 0), .int .i64 (f 1), .int .i64 (f 2), .int .i64 (f 3), .int .i64 (f 4), .int .i64 (f 5)]) (.int .i64 4)).run Tryz.prog w = .ok (.int .i64 (f 4)) w := by kernel_rfl
theorem six_at5 (f : Int → Int) (w : World) : (Instr.index 265 (.agg #[.int .i64 (f 0), .int .i64 (f 1), .int .i64 (f 2), .int .i64 (f 3), .int .i64 (f 4), .int .i64 (f 5)]) (.int .i64 5)).run Tryz.prog w = .ok (.int .i64 (f 5)) w := by kernel_rfl
theorem six_at (f : Int → Int) (k : Nat) (hk : k < 6) (w : World) : (Instr.index 265 (.agg #[.int .i64 (f 0), .int .i64 (f 1), .int .i64 (f 2), .int .i64 (f 3), .int .i64 (f 4), .int .i64 (f 5)]) (.int .i64 k)).run Tryz.prog w = .ok (.int .i64 (f k)) w := by
  have : k = 0 ∨ k = 1 ∨ k = 2 ∨ k = 3 ∨ k = 4 ∨ k = 5 := by omega
  rcases this with rfl | rfl | rfl | rfl | rfl | rfl
  · exact six_at0 f w
  · exact six_at1 f w
  · exact six_at2 f w
  · exact six_at3 f w
  · exact six_at4 f w
  · exact six_at5 f w

set_option maxRecDepth 100000 in
set_option maxHeartbeats 1000000 in
theorem pu_supply (b : Nat) (x : Pu) (w : World) (h : PurAt w b x) :
    Calls Tryz.prog 143 #[.pointer (some ⟨b, 0, none⟩)] w fun e w' => e = .returned (.int .i64 x.S) ∧ w' = w := by
  have c6 := h.raw.c6
  have s0 := h.raw.s 0 (by omega)
  have s1 := h.raw.s 1 (by omega)
  have s2 := h.raw.s 2 (by omega)
  have s3 := h.raw.s 3 (by omega)
  have s4 := h.raw.s 4 (by omega)
  have s5 := h.raw.s 5 (by omega)
  have a2 := h.ok.top
  have hx := h.ok
  have E := hide (preS_six x)
  have D := hide (@preS_bd x hx)
  clear h
  obtain ⟨N, hN⟩ : ∃ N, x.S - x.sum = N := ⟨_, rfl⟩
  rw [hN] at c6 E D
  clear hN hx
  go_enter Tryz.func143, Tryz.ntmps143
  go_wp2
  go_loop [3, 14] (fun n i => ∃ k : Nat, k ≤ 6 ∧ i = .int .i64 k ∧ n = .int .i64 (preS N x.s k)) (fun _ i => 6 - (intOf i).toNat)
  case atStart => exact ⟨0, by omega, rfl, rfl⟩
  case round =>
    obtain ⟨k, hk, rfl, rfl⟩ := hrel
    by_cases hlt : k < 6
    · have hi := six_at x.s k hlt
      have hp := D.out k (by omega)
      have hq := D.out (k + 1) (by omega)
      have he : preS N x.s (k + 1) = preS N x.s k + x.s k := rfl
      rw [he] at hq
      clear he
      go_wp2
      go_round
      case rel => exact ⟨k + 1, by omega, by go_num, rfl⟩
      case measure => simp [intOf]; omega
    · obtain rfl : k = 6 := by omega
      go_wp2
      go_ret
      exact ⟨ret_int E.out, rfl⟩
theorem pu_has (b : Nat) (x : Pu) (hx : x.Ok) (o : Int) (w : World) (h : PurAt w b x) :
    Calls Tryz.prog 138 #[.pointer (some ⟨b, 0, none⟩), .int .i64 o] w fun e w' => e = .returned (.int .i64 (x.s o)) ∧ w' = w := by
  by_cases ho : 0 ≤ o ∧ o < 6
  · have Iw := owner_yes o ho.1 ho.2
    obtain ⟨k, rfl⟩ : ∃ k : Nat, o = k := ⟨o.toNat, by omega⟩
    have hk : k < 6 := by omega
    have cs := h.raw.s k hk
    clear ho
    go_enter Tryz.func138, Tryz.ntmps138
    go_wp2_with (go_at_call 202; refine (Iw _).mono ?_; rintro e w' ⟨rfl, rfl⟩)
    go_ret
    exact ⟨rfl, rfl⟩
  · have Iw := owner_no o ho
    have E := hide (hx.out o ho)
    clear ho
    go_enter Tryz.func138, Tryz.ntmps138
    go_wp2_with (go_at_call 202; refine (Iw _).mono ?_; rintro e w' ⟨rfl, rfl⟩)
    go_ret
    exact ⟨ret_int E.out.symm, rfl⟩
set_option maxHeartbeats 1000000 in
/-- may it grow by so much? -/
theorem pu_may (b : Nat) (x : Pu) (hx : x.Ok) (n : Int) (hn : Amt n ∧ x.S + n ≤ 1125899906842624) (w : World) (h : PurAt w b x) :
    Calls Tryz.prog 245 #[.pointer (some ⟨b, 0, none⟩), .int .i64 n] w fun e w' => e = .returned (.bool true) ∧ w' = w := by
  have I := amount_yes n hn.1.1 hn.1.2
  have s0 := hx.sum0
  have a1 := hx.le
  have a2 := hx.top
  have J := amount_yes (x.S + n) (by have := hn.1.1; omega) hn.2
  have n0 := hn.1.1
  have n1 := hn.1.2
  have n2 := hn.2
  clear hn
  go_enter Tryz.func245, Tryz.ntmps245
  go_wp2_with fail
  refine (I _).mono ?_
  rintro e w' ⟨rfl, rfl⟩
  go_wp2_with fail
  refine (pu_supply b x _ h).mono ?_
  rintro e w' ⟨rfl, rfl⟩
  go_wp2_with fail
  refine (J _).mono ?_
  rintro e w' ⟨rfl, rfl⟩
  go_wp2_with fail
  go_ret
  exact ⟨rfl, rfl⟩
set_option maxHeartbeats 1000000 in
theorem pu_mayNot (b : Nat) (x : Pu) (hx : x.Ok) (n : Int) (hn : ¬ (Amt n ∧ x.S + n ≤ 1125899906842624)) (w : World) (h : PurAt w b x) :
    Calls Tryz.prog 245 #[.pointer (some ⟨b, 0, none⟩), .int .i64 n] w fun e w' => e = .returned (.bool false) ∧ w' = w := by
  by_cases hb : Amt n
  · have I := amount_yes n hb.1 hb.2
    have s0 := hx.sum0
    have a1 := hx.le
    have a2 := hx.top
    have n0 := hb.1
    have n1 := hb.2
    have n2 : ¬ x.S + n ≤ 1125899906842624 := fun g => hn ⟨hb, g⟩
    have J := amount_no (x.S + n) (fun g => n2 g.2)
    clear hn hb
    go_enter Tryz.func245, Tryz.ntmps245
    go_wp2_with fail
    refine (I _).mono ?_
    rintro e w' ⟨rfl, rfl⟩
    go_wp2_with fail
    refine (pu_supply b x _ h).mono ?_
    rintro e w' ⟨rfl, rfl⟩
    go_wp2_with fail
    refine (J _).mono ?_
    rintro e w' ⟨rfl, rfl⟩
    go_wp2_with fail
    go_ret
    exact ⟨rfl, rfl⟩
  · have I := amount_no n hb
    clear hn hb
    go_enter Tryz.func245, Tryz.ntmps245
    go_wp2_with fail
    refine (I _).mono ?_
    rintro e w' ⟨rfl, rfl⟩
    go_wp2_with fail
    go_ret
    exact ⟨rfl, rfl⟩
end Go.Proofs.YtmbfdhekplnoaaaGreatDoor

namespace Go.Proofs.YtmbfdhekplnoaaaGreatDoor
open Go.RowKit

theorem pa_setN {w w0 : World} {b : Nat} {f : Int → Int} {N : Int} (h : PRaw w b f N ∧ Kept [b] w0 w) (v : Int) : PRaw (w.setCell ⟨b, 6, none⟩ (.int .i64 v)) b f v ∧ Kept [b] w0 (w.setCell ⟨b, 6, none⟩ (.int .i64 v)) := ⟨h.1.setN v, h.2.setCell (by simp) _⟩
theorem pa_setO {w w0 : World} {b : Nat} {f : Int → Int} {N : Int} (h : PRaw w b f N ∧ Kept [b] w0 w) (k : Nat) (hk : k < 6) (v : Int) : PRaw (w.setCell ⟨b, k, none⟩ (.int .i64 v)) b (put f k v) N ∧ Kept [b] w0 (w.setCell ⟨b, k, none⟩ (.int .i64 v)) := ⟨h.1.setO k hk v, h.2.setCell (by simp) _⟩
theorem pa_drew {w w0 : World} {b : Nat} {f : Int → Int} {N : Int} (h : PRaw w b f N ∧ Kept [b] w0 w) : PRaw w.drew b f N ∧ Kept [b] w0 w.drew := ⟨h.1.drew, h.2.drew⟩
theorem PurAt.of {w w0 : World} {b : Nat} {N : Int} (y : Pu) (h : PRaw w b y.s N ∧ Kept [b] w0 w) (hN : N = y.S - y.sum) (ok : y.Ok) : PurAt w b y ∧ Kept [b] w0 w := ⟨⟨by rw [← hN]; exact h.1, ok⟩, h.2⟩
theorem PurAt.stay {w : World} {b : Nat} {x y : Pu} (h : PurAt w b x) (e : y = x) : PurAt w b y ∧ Kept [b] w w := by rw [e]; exact ⟨h, Kept.refl _ _⟩
theorem pa_own {o : Int} (h : Own o) : ∃ k : Nat, o = k ∧ k < 6 := ⟨o.toNat, by have := h.1; omega, by have := h.2; have := h.1; omega⟩
theorem pu_fresh (w : World) (t : TypeId) : PurAt (w.alloc (.cells #[.int .i64 0, .int .i64 0, .int .i64 0, .int .i64 0, .int .i64 0, .int .i64 0, .int .i64 0] t)) w.heap.size none' where
  raw := ⟨fun i hi => by
    have : i = 0 ∨ i = 1 ∨ i = 2 ∨ i = 3 ∨ i = 4 ∨ i = 5 := by omega
    rcases this with rfl | rfl | rfl | rfl | rfl | rfl <;> exact cell_new _ _ _ _ _ _ rfl rfl, cell_new _ _ _ _ _ _ rfl rfl, fun i => World.frozen?_alloc_at _ _ _ _ rfl⟩
  ok := none_ok
set_option maxRecDepth 100000 in
theorem pu_new (w : World) :
    Calls Tryz.prog 197 #[] w fun e w' => ∃ b, e = .returned (.pointer (some ⟨b, 0, none⟩)) ∧ w.heap.size ≤ b ∧ PurAt w' b none' ∧ Below w.heap.size w w' := by
  go_enter Tryz.func197, Tryz.ntmps197
  go_wp2
  go_ret
  exact ⟨w.heap.size, rfl, Nat.le_refl _, pu_fresh w _, (Below.refl _ _).alloc (Nat.le_refl _) _⟩

set_option maxRecDepth 100000 in
set_option maxHeartbeats 1000000 in
theorem pu_grow (b : Nat) (x : Pu) (hx : x.Ok) (n : Int) (A : Nat → Addr) (w : World) (hL : PurLaid w A) (h : PurAt w b x) :
    Calls Tryz.prog 255 #[.pointer (some ⟨b, 0, none⟩), .int .i64 n] w fun e w' => ∃ ev, e = .returned ev ∧ ErrIs A ev (x.growC n) ∧ PurAt w' b (x.grow n) ∧ Kept [b] w w' := by
  have v1 := hL.v1
  by_cases hn : Amt n ∧ x.S + n ≤ 1125899906842624
  · have e1 : x.growC n = 0 := if_pos hn
    have e2 : x.grow n = ⟨x.s, x.S + n⟩ := if_pos e1
    have G := pu_may b x hx n hn w h
    have ok := hx.grow n
    rw [e2] at ok
    have s0 := hx.sum0
    have a1 := hx.le
    have n0 := hn.1.1
    have n1 := hn.1.2
    have n2 := hn.2
    have R := h.raw
    have hN : x.S - x.sum + n = (⟨x.s, x.S + n⟩ : Pu).S - (⟨x.s, x.S + n⟩ : Pu).sum := by show _ = x.S + n - x.sum; omega
    obtain ⟨N, eN⟩ : ∃ N, x.S - x.sum = N := ⟨_, rfl⟩
    rw [eN] at R hN
    have b0 : 0 ≤ N := by omega
    have b1 : N ≤ 1125899906842624 := by omega
    have c6 := R.c6
    have f6 := R.f 6
    rw [e1, e2]
    have Z := hide (And.intro R (And.intro hN ok))
    clear hn e1 e2 eN s0 a1 n2 R hN ok
    go_enter Tryz.func255, Tryz.ntmps255
    go_wp2_with fail
    refine G.mono ?_
    rintro e w' ⟨rfl, rfl⟩
    go_wp2_with fail
    go_ret
    exact ⟨_, rfl, err_none A rfl, PurAt.of _ (pa_setN ⟨Z.out.1, Kept.refl _ _⟩ _) Z.out.2.1 Z.out.2.2⟩
  · have e1 : x.growC n = 2 := if_neg hn
    have e2 : x.grow n = x := if_neg (by rw [e1]; decide)
    have G := pu_mayNot b x hx n hn w h
    rw [e1, e2]
    clear hn e1 e2
    go_enter Tryz.func255, Tryz.ntmps255
    go_wp2_with fail
    refine G.mono ?_
    rintro e w' ⟨rfl, rfl⟩
    go_wp2_with fail
    go_ret
    exact ⟨_, rfl, err_bound A rfl, h, Kept.refl _ _⟩

set_option maxRecDepth 100000 in
set_option maxHeartbeats 1000000 in
theorem pu_mint (b : Nat) (x : Pu) (hx : x.Ok) (o n : Int) (A : Nat → Addr) (w : World) (hL : PurLaid w A) (h : PurAt w b x) :
    Calls Tryz.prog 199 #[.pointer (some ⟨b, 0, none⟩), .int .i64 o, .int .i64 n] w fun e w' => ∃ ev, e = .returned ev ∧ ErrIs A ev (x.mintC o n) ∧ PurAt w' b (x.mint o n) ∧ Kept [b] w w' := by
  have v1 := hL.v1
  by_cases ho : Own o
  · have Iw := owner_yes o ho.1 ho.2 w
    by_cases hn : Amt n ∧ x.S + n ≤ 1125899906842624
    · have e1 : x.mintC o n = 0 := if_pos ⟨ho, hn⟩
      have e2 : x.mint o n = ⟨put x.s o (x.s o + n), x.S + n⟩ := if_pos e1
      have G := pu_may b x hx n hn w h
      have ok := hx.mint o n
      rw [e2] at ok
      have hN : x.S - x.sum = (⟨put x.s o (x.s o + n), x.S + n⟩ : Pu).S - (⟨put x.s o (x.s o + n), x.S + n⟩ : Pu).sum := by rw [sum_put x _ _ _ ho]; show _ = x.S + n - _; omega
      have s0 := hx.one o
      have a0 := hx.pos o
      have a1 := hx.le
      have n0 := hn.1.1
      have n1 := hn.1.2
      have n2 := hn.2
      have R := h.raw
      rw [e1, e2]
      obtain ⟨k, rfl, hk⟩ := pa_own ho
      have cs := R.s k hk
      have fs := R.f k
      obtain ⟨v, ev⟩ : ∃ v, x.s k = v := ⟨_, rfl⟩
      rw [ev] at cs hN ok s0 a0 ⊢
      have b1 : v ≤ 1125899906842624 := by have := hx.top; omega
      have Z := hide (And.intro R (And.intro hN ok))
      clear hn e1 e2 ev s0 a1 n2 R hN ok ho
      go_enter Tryz.func199, Tryz.ntmps199
      go_wp2_with fail
      refine Iw.mono ?_
      rintro e w' ⟨rfl, rfl⟩
      go_wp2_with fail
      refine G.mono ?_
      rintro e w' ⟨rfl, rfl⟩
      go_wp2_with fail
      go_region
      go_wp2_with fail
      go_ret
      exact ⟨_, rfl, err_none A rfl, PurAt.of _ (pa_drew (pa_setO ⟨Z.out.1, Kept.refl _ _⟩ k hk _)) Z.out.2.1 Z.out.2.2⟩
    · have e1 : x.mintC o n = 2 := if_neg (fun g => hn g.2)
      have e2 : x.mint o n = x := if_neg (by rw [e1]; decide)
      have G := pu_mayNot b x hx n hn w h
      rw [e1, e2]
      clear hn e1 e2 ho
      go_enter Tryz.func199, Tryz.ntmps199
      go_wp2_with fail
      refine Iw.mono ?_
      rintro e w' ⟨rfl, rfl⟩
      go_wp2_with fail
      refine G.mono ?_
      rintro e w' ⟨rfl, rfl⟩
      go_wp2_with fail
      go_ret
      exact ⟨_, rfl, err_bound A rfl, h, Kept.refl _ _⟩
  · have Iw := owner_no o ho w
    have e1 : x.mintC o n = 2 := if_neg (fun g => ho g.1)
    have e2 : x.mint o n = x := if_neg (by rw [e1]; decide)
    rw [e1, e2]
    clear e1 e2 ho
    go_enter Tryz.func199, Tryz.ntmps199
    go_wp2_with fail
    refine Iw.mono ?_
    rintro e w' ⟨rfl, rfl⟩
    go_wp2_with fail
    go_ret
    exact ⟨_, rfl, err_bound A rfl, h, Kept.refl _ _⟩

set_option maxRecDepth 100000 in
set_option maxHeartbeats 1000000 in
theorem pu_burn (b : Nat) (x : Pu) (hx : x.Ok) (n : Int) (A : Nat → Addr) (w : World) (hL : PurLaid w A) (h : PurAt w b x) :
    Calls Tryz.prog 257 #[.pointer (some ⟨b, 0, none⟩), .int .i64 n] w fun e w' => ∃ ev, e = .returned ev ∧ ErrIs A ev (x.burnC n) ∧ PurAt w' b (x.burn n) ∧ Kept [b] w w' := by
  have v1 := hL.v1
  have v5 := hL.v5
  by_cases hb : Amt n
  · have I := amount_yes n hb.1 hb.2 w
    have s0 := hx.sum0
    have a1 := hx.le
    have a2 := hx.top
    have n0 := hb.1
    have n1 := hb.2
    have R := h.raw
    by_cases ht : x.S - x.sum < n
    · have e1 : x.burnC n = 6 := by unfold Pu.burnC; rw [if_neg (fun g => g hb), if_pos ht]
      have e2 : x.burn n = x := if_neg (by rw [e1]; decide)
      rw [e1, e2]
      obtain ⟨N, eN⟩ : ∃ N, x.S - x.sum = N := ⟨_, rfl⟩
      rw [eN] at R ht
      have b0 : 0 ≤ N := by omega
      have c6 := R.c6
      clear e1 e2 hb eN s0 a1 a2
      go_enter Tryz.func257, Tryz.ntmps257
      go_wp2_with fail
      refine I.mono ?_
      rintro e w' ⟨rfl, rfl⟩
      go_wp2_with fail
      go_ret
      exact ⟨_, rfl, err_short A rfl, h, Kept.refl _ _⟩
    · have e1 : x.burnC n = 0 := by unfold Pu.burnC; rw [if_neg (fun g => g hb), if_neg ht]
      have e2 : x.burn n = ⟨x.s, x.S - n⟩ := if_pos e1
      have ok := hx.burn n
      rw [e2] at ok
      have hN : x.S - x.sum - n = (⟨x.s, x.S - n⟩ : Pu).S - (⟨x.s, x.S - n⟩ : Pu).sum := by show _ = x.S - n - x.sum; omega
      rw [e1, e2]
      obtain ⟨N, eN⟩ : ∃ N, x.S - x.sum = N := ⟨_, rfl⟩
      rw [eN] at R hN ht
      have b0 : 0 ≤ N := by omega
      have b1 : N ≤ 1125899906842624 := by omega
      have c6 := R.c6
      have f6 := R.f 6
      have Z := hide (And.intro R (And.intro hN ok))
      clear e1 e2 hb eN s0 a1 a2 R hN ok
      go_enter Tryz.func257, Tryz.ntmps257
      go_wp2_with fail
      refine I.mono ?_
      rintro e w' ⟨rfl, rfl⟩
      go_wp2_with fail
      go_ret
      exact ⟨_, rfl, err_none A rfl, PurAt.of _ (pa_setN ⟨Z.out.1, Kept.refl _ _⟩ _) Z.out.2.1 Z.out.2.2⟩
  · have e1 : x.burnC n = 2 := if_pos hb
    have e2 : x.burn n = x := if_neg (by rw [e1]; decide)
    have I := amount_no n hb w
    rw [e1, e2]
    clear e1 e2 hb
    go_enter Tryz.func257, Tryz.ntmps257
    go_wp2_with fail
    refine I.mono ?_
    rintro e w' ⟨rfl, rfl⟩
    go_wp2_with fail
    go_ret
    exact ⟨_, rfl, err_bound A rfl, h, Kept.refl _ _⟩

set_option maxRecDepth 100000 in
set_option maxHeartbeats 1000000 in
theorem pu_out (b : Nat) (x : Pu) (hx : x.Ok) (o n : Int) (A : Nat → Addr) (w : World) (hL : PurLaid w A) (h : PurAt w b x) :
    Calls Tryz.prog 204 #[.pointer (some ⟨b, 0, none⟩), .int .i64 o, .int .i64 n] w fun e w' => ∃ ev, e = .returned ev ∧ ErrIs A ev (x.outC o n) ∧ PurAt w' b (x.out o n) ∧ Kept [b] w w' := by
  have v1 := hL.v1
  have v5 := hL.v5
  by_cases hb : ¬ (Own o ∧ Amt n)
  · have e1 : x.outC o n = 2 := if_pos hb
    have e2 : x.out o n = x := if_neg (by rw [e1]; decide)
    rw [e1, e2]
    clear e1 e2
    by_cases ho : Own o
    · have Iw := owner_yes o ho.1 ho.2 w
      have I := amount_no n (fun g => hb ⟨ho, g⟩) w
      clear hb ho
      go_enter Tryz.func204, Tryz.ntmps204
      go_wp2_with fail
      refine Iw.mono ?_
      rintro e w' ⟨rfl, rfl⟩
      go_wp2_with fail
      refine I.mono ?_
      rintro e w' ⟨rfl, rfl⟩
      go_wp2_with fail
      go_ret
      exact ⟨_, rfl, err_bound A rfl, h, Kept.refl _ _⟩
    · have Iw := owner_no o ho w
      clear hb ho
      go_enter Tryz.func204, Tryz.ntmps204
      go_wp2_with fail
      refine Iw.mono ?_
      rintro e w' ⟨rfl, rfl⟩
      go_wp2_with fail
      go_ret
      exact ⟨_, rfl, err_bound A rfl, h, Kept.refl _ _⟩
  · have hb : Own o ∧ Amt n := Classical.not_not.mp hb
    have Iw := owner_yes o hb.1.1 hb.1.2 w
    have I := amount_yes n hb.2.1 hb.2.2 w
    have s0 := hx.sum0
    have s1 := hx.one o
    have a0 := hx.pos o
    have a1 := hx.le
    have a2 := hx.top
    have n0 := hb.2.1
    have n1 := hb.2.2
    have R := h.raw
    by_cases ht : x.s o < n
    · have e1 : x.outC o n = 6 := by unfold Pu.outC; rw [if_neg (fun g => g hb), if_pos ht]
      have e2 : x.out o n = x := if_neg (by rw [e1]; decide)
      rw [e1, e2]
      obtain ⟨k, rfl, hk⟩ := pa_own hb.1
      obtain ⟨N, eN⟩ : ∃ N, x.S - x.sum = N := ⟨_, rfl⟩
      have cs := R.s k hk
      obtain ⟨v, ev⟩ : ∃ v, x.s k = v := ⟨_, rfl⟩
      rw [eN] at R
      rw [ev] at cs a0 s1 ht
      have b0 : 0 ≤ N := by omega
      have c6 := R.c6
      clear e1 e2 hb eN ev s0 s1 a1 a2
      go_enter Tryz.func204, Tryz.ntmps204
      go_wp2_with fail
      refine Iw.mono ?_
      rintro e w' ⟨rfl, rfl⟩
      go_wp2_with fail
      refine I.mono ?_
      rintro e w' ⟨rfl, rfl⟩
      go_wp2_with fail
      go_ret
      exact ⟨_, rfl, err_short A rfl, h, Kept.refl _ _⟩
    · have e1 : x.outC o n = 0 := by unfold Pu.outC; rw [if_neg (fun g => g hb), if_neg ht]
      have e2 : x.out o n = ⟨put x.s o (x.s o - n), x.S⟩ := if_pos e1
      have ok := hx.out' o n
      rw [e2] at ok
      have hN : x.S - x.sum + n = (⟨put x.s o (x.s o - n), x.S⟩ : Pu).S - (⟨put x.s o (x.s o - n), x.S⟩ : Pu).sum := by rw [sum_put x _ _ _ hb.1]; show _ = x.S - _; omega
      rw [e1, e2]
      obtain ⟨k, rfl, hk⟩ := pa_own hb.1
      obtain ⟨N, eN⟩ : ∃ N, x.S - x.sum = N := ⟨_, rfl⟩
      have cs := R.s k hk
      have fs := R.f k
      have f6 := R.f 6
      obtain ⟨v, ev⟩ : ∃ v, x.s k = v := ⟨_, rfl⟩
      rw [eN] at R hN
      rw [ev] at cs a0 s1 hN ok ht ⊢
      have b0 : 0 ≤ N := by omega
      have b1 : N ≤ 1125899906842624 := by omega
      have b2 : v ≤ 1125899906842624 := by omega
      have b3 : N + v ≤ 1125899906842624 := by omega
      have c6 := R.c6
      have Z := hide (And.intro R (And.intro hN ok))
      clear e1 e2 hb eN ev s0 s1 a1 a2 R hN ok
      go_enter Tryz.func204, Tryz.ntmps204
      go_wp2_with fail
      refine Iw.mono ?_
      rintro e w' ⟨rfl, rfl⟩
      go_wp2_with fail
      refine I.mono ?_
      rintro e w' ⟨rfl, rfl⟩
      go_wp2_with fail
      go_region
      have M2 := pa_drew (pa_setO ⟨Z.out.1, Kept.refl _ _⟩ k hk (v - n))
      clear c6 cs fs h hL v1 v5 Iw I
      generalize (w'.setCell ⟨b, k, none⟩ (.int .i64 (v - n))).drew = w1 at *
      have c6 := M2.1.c6
      have f6 := M2.1.f 6
      go_wp2_with fail
      go_ret
      exact ⟨_, rfl, err_none A rfl, PurAt.of _ (pa_setN M2 _) Z.out.2.1 Z.out.2.2⟩

set_option maxRecDepth 100000 in
set_option maxHeartbeats 1000000 in
theorem pu_in (b : Nat) (x : Pu) (hx : x.Ok) (o n : Int) (A : Nat → Addr) (w : World) (hL : PurLaid w A) (h : PurAt w b x) :
    Calls Tryz.prog 206 #[.pointer (some ⟨b, 0, none⟩), .int .i64 o, .int .i64 n] w fun e w' => ∃ ev, e = .returned ev ∧ ErrIs A ev (x.inC o n) ∧ PurAt w' b (x.in' o n) ∧ Kept [b] w w' := by
  have v1 := hL.v1
  have v5 := hL.v5
  by_cases hb : ¬ (Own o ∧ Amt n)
  · have e1 : x.inC o n = 2 := if_pos hb
    have e2 : x.in' o n = x := if_neg (by rw [e1]; decide)
    rw [e1, e2]
    clear e1 e2
    by_cases ho : Own o
    · have Iw := owner_yes o ho.1 ho.2 w
      have I := amount_no n (fun g => hb ⟨ho, g⟩) w
      clear hb ho
      go_enter Tryz.func206, Tryz.ntmps206
      go_wp2_with fail
      refine Iw.mono ?_
      rintro e w' ⟨rfl, rfl⟩
      go_wp2_with fail
      refine I.mono ?_
      rintro e w' ⟨rfl, rfl⟩
      go_wp2_with fail
      go_ret
      exact ⟨_, rfl, err_bound A rfl, h, Kept.refl _ _⟩
    · have Iw := owner_no o ho w
      clear hb ho
      go_enter Tryz.func206, Tryz.ntmps206
      go_wp2_with fail
      refine Iw.mono ?_
      rintro e w' ⟨rfl, rfl⟩
      go_wp2_with fail
      go_ret
      exact ⟨_, rfl, err_bound A rfl, h, Kept.refl _ _⟩
  · have hb : Own o ∧ Amt n := Classical.not_not.mp hb
    have Iw := owner_yes o hb.1.1 hb.1.2 w
    have I := amount_yes n hb.2.1 hb.2.2 w
    have s0 := hx.sum0
    have s1 := hx.one o
    have a0 := hx.pos o
    have a1 := hx.le
    have a2 := hx.top
    have n0 := hb.2.1
    have n1 := hb.2.2
    have R := h.raw
    by_cases ht : x.S - x.sum < n
    · have e1 : x.inC o n = 6 := by unfold Pu.inC; rw [if_neg (fun g => g hb), if_pos ht]
      have e2 : x.in' o n = x := if_neg (by rw [e1]; decide)
      rw [e1, e2]
      obtain ⟨k, rfl, hk⟩ := pa_own hb.1
      obtain ⟨N, eN⟩ : ∃ N, x.S - x.sum = N := ⟨_, rfl⟩
      have cs := R.s k hk
      obtain ⟨v, ev⟩ : ∃ v, x.s k = v := ⟨_, rfl⟩
      rw [eN] at R ht
      rw [ev] at cs a0 s1
      have b0 : 0 ≤ N := by omega
      have c6 := R.c6
      clear e1 e2 hb eN ev s0 s1 a1 a2
      go_enter Tryz.func206, Tryz.ntmps206
      go_wp2_with fail
      refine Iw.mono ?_
      rintro e w' ⟨rfl, rfl⟩
      go_wp2_with fail
      refine I.mono ?_
      rintro e w' ⟨rfl, rfl⟩
      go_wp2_with fail
      go_ret
      exact ⟨_, rfl, err_short A rfl, h, Kept.refl _ _⟩
    · have e1 : x.inC o n = 0 := by unfold Pu.inC; rw [if_neg (fun g => g hb), if_neg ht]
      have e2 : x.in' o n = ⟨put x.s o (x.s o + n), x.S⟩ := if_pos e1
      have ok := hx.in' o n
      rw [e2] at ok
      have hN : x.S - x.sum - n = (⟨put x.s o (x.s o + n), x.S⟩ : Pu).S - (⟨put x.s o (x.s o + n), x.S⟩ : Pu).sum := by rw [sum_put x _ _ _ hb.1]; show _ = x.S - _; omega
      rw [e1, e2]
      obtain ⟨k, rfl, hk⟩ := pa_own hb.1
      obtain ⟨N, eN⟩ : ∃ N, x.S - x.sum = N := ⟨_, rfl⟩
      have cs := R.s k hk
      have fs := R.f k
      have f6 := R.f 6
      obtain ⟨v, ev⟩ : ∃ v, x.s k = v := ⟨_, rfl⟩
      rw [eN] at R hN ht
      rw [ev] at cs a0 s1 hN ok ⊢
      have b0 : 0 ≤ N := by omega
      have b1 : N ≤ 1125899906842624 := by omega
      have b2 : v ≤ 1125899906842624 := by omega
      have b3 : N + v ≤ 1125899906842624 := by omega
      have c6 := R.c6
      have Z := hide (And.intro R (And.intro hN ok))
      have EV := hide ev
      clear e1 e2 hb eN ev s0 s1 a1 a2 R hN ok
      go_enter Tryz.func206, Tryz.ntmps206
      go_wp2_with fail
      refine Iw.mono ?_
      rintro e w' ⟨rfl, rfl⟩
      go_wp2_with fail
      refine I.mono ?_
      rintro e w' ⟨rfl, rfl⟩
      go_wp2_with fail
      have M2 := pa_setN ⟨Z.out.1, Kept.refl _ _⟩ (N - n)
      clear c6 cs fs h hL v1 v5 Iw I
      generalize w'.setCell ⟨b, 6, none⟩ (.int .i64 (N - n)) = w1 at *
      have cs := M2.1.s k hk
      rw [EV.out] at cs
      have fs := M2.1.f k
      go_region
      go_wp2_with fail
      go_ret
      exact ⟨_, rfl, err_none A rfl, PurAt.of _ (pa_drew (pa_setO M2 k hk _)) Z.out.2.1 Z.out.2.2⟩

set_option maxRecDepth 100000 in
set_option maxHeartbeats 2000000 in
theorem pu_move (b : Nat) (x : Pu) (hx : x.Ok) (o t n : Int) (A : Nat → Addr) (w : World) (hL : PurLaid w A) (h : PurAt w b x) :
    Calls Tryz.prog 128 #[.pointer (some ⟨b, 0, none⟩), .int .i64 o, .int .i64 t, .int .i64 n] w fun e w' => ∃ ev, e = .returned ev ∧ ErrIs A ev (x.moveC o t n) ∧ PurAt w' b (x.move o t n) ∧ Kept [b] w w' := by
  have v1 := hL.v1
  have v5 := hL.v5
  by_cases hb : ¬ (Own o ∧ Own t ∧ Amt n)
  · have e1 : x.moveC o t n = 2 := if_pos hb
    have e2 : x.move o t n = x := if_neg (by rw [e1]; decide)
    rw [e1, e2]
    clear e1 e2
    by_cases ho : Own o
    · have Iw := owner_yes o ho.1 ho.2 w
      by_cases ht : Own t
      · have IT := owner_yes t ht.1 ht.2 w
        have I := amount_no n (fun g => hb ⟨ho, ht, g⟩) w
        clear hb ho ht
        go_enter Tryz.func128, Tryz.ntmps128
        go_wp2_with fail
        refine Iw.mono ?_
        rintro e w' ⟨rfl, rfl⟩
        go_wp2_with fail
        refine IT.mono ?_
        rintro e w' ⟨rfl, rfl⟩
        go_wp2_with fail
        refine I.mono ?_
        rintro e w' ⟨rfl, rfl⟩
        go_wp2_with fail
        go_ret
        exact ⟨_, rfl, err_bound A rfl, h, Kept.refl _ _⟩
      · have IT := owner_no t ht w
        clear hb ho ht
        go_enter Tryz.func128, Tryz.ntmps128
        go_wp2_with fail
        refine Iw.mono ?_
        rintro e w' ⟨rfl, rfl⟩
        go_wp2_with fail
        refine IT.mono ?_
        rintro e w' ⟨rfl, rfl⟩
        go_wp2_with fail
        go_ret
        exact ⟨_, rfl, err_bound A rfl, h, Kept.refl _ _⟩
    · have Iw := owner_no o ho w
      clear hb ho
      go_enter Tryz.func128, Tryz.ntmps128
      go_wp2_with fail
      refine Iw.mono ?_
      rintro e w' ⟨rfl, rfl⟩
      go_wp2_with fail
      go_ret
      exact ⟨_, rfl, err_bound A rfl, h, Kept.refl _ _⟩
  · have hb : Own o ∧ Own t ∧ Amt n := Classical.not_not.mp hb
    have Iw := owner_yes o hb.1.1 hb.1.2 w
    have IT := owner_yes t hb.2.1.1 hb.2.1.2 w
    have I := amount_yes n hb.2.2.1 hb.2.2.2 w
    have s0 := hx.sum0
    have s1 := hx.one o
    have a0 := hx.pos o
    have a1 := hx.le
    have a2 := hx.top
    have n0 := hb.2.2.1
    have n1 := hb.2.2.2
    have R := h.raw
    by_cases ht : x.s o < n
    · have e1 : x.moveC o t n = 6 := by unfold Pu.moveC; rw [if_neg (fun g => g hb), if_pos ht]
      have e2 : x.move o t n = x := if_neg (by rw [e1]; decide)
      rw [e1, e2]
      obtain ⟨k, rfl, hk⟩ := pa_own hb.1
      have cs := R.s k hk
      obtain ⟨v, ev⟩ : ∃ v, x.s k = v := ⟨_, rfl⟩
      rw [ev] at cs a0 s1 ht
      clear e1 e2 hb ev s0 s1 a1 a2
      go_enter Tryz.func128, Tryz.ntmps128
      go_wp2_with fail
      refine Iw.mono ?_
      rintro e w' ⟨rfl, rfl⟩
      go_wp2_with fail
      refine IT.mono ?_
      rintro e w' ⟨rfl, rfl⟩
      go_wp2_with fail
      refine I.mono ?_
      rintro e w' ⟨rfl, rfl⟩
      go_wp2_with fail
      go_ret
      exact ⟨_, rfl, err_short A rfl, h, Kept.refl _ _⟩
    · have e1 : x.moveC o t n = 0 := by unfold Pu.moveC; rw [if_neg (fun g => g hb), if_neg ht]
      have e2 : x.move o t n = ⟨put (put x.s o (x.s o - n)) t (put x.s o (x.s o - n) t + n), x.S⟩ := if_pos e1
      have ok := hx.move o t n
      rw [e2] at ok
      have hN : x.S - x.sum = (⟨put (put x.s o (x.s o - n)) t (put x.s o (x.s o - n) t + n), x.S⟩ : Pu).S - (⟨put (put x.s o (x.s o - n)) t (put x.s o (x.s o - n) t + n), x.S⟩ : Pu).sum := by
        rw [sum_put ⟨put x.s o (x.s o - n), x.S⟩ _ _ _ hb.2.1, sum_put x _ _ _ hb.1]
        show _ = x.S - (_ - put x.s o (x.s o - n) t + _)
        omega
      have hP : 0 ≤ put x.s o (x.s o - n) t ∧ put x.s o (x.s o - n) t ≤ 1125899906842624 := by
        have := hx.pos t
        have := hx.one t
        unfold put; split <;> omega
      rw [e1, e2]
      obtain ⟨k, rfl, hk⟩ := pa_own hb.1
      obtain ⟨j, rfl, hj⟩ := pa_own hb.2.1
      have cs := R.s k hk
      have fs := R.f k
      obtain ⟨v, ev⟩ : ∃ v, x.s k = v := ⟨_, rfl⟩
      rw [ev] at cs a0 s1 hN ok ht hP ⊢
      have b2 : v ≤ 1125899906842624 := by omega
      obtain ⟨u, eu⟩ : ∃ u, put x.s k (v - n) j = u := ⟨_, rfl⟩
      rw [eu] at hN ok hP ⊢
      obtain ⟨u0, u1⟩ := hP
      have Z := hide (And.intro R (And.intro hN (And.intro ok eu)))
      clear e1 e2 hb ev s0 s1 a1 a2 R hN ok eu
      go_enter Tryz.func128, Tryz.ntmps128
      go_wp2_with fail
      refine Iw.mono ?_
      rintro e w' ⟨rfl, rfl⟩
      go_wp2_with fail
      refine IT.mono ?_
      rintro e w' ⟨rfl, rfl⟩
      go_wp2_with fail
      refine I.mono ?_
      rintro e w' ⟨rfl, rfl⟩
      go_wp2_with fail
      go_region
      have M2 := pa_drew (pa_setO ⟨Z.out.1, Kept.refl _ _⟩ k hk (v - n))
      clear cs fs h hL v1 v5 Iw I
      generalize (w'.setCell ⟨b, k, none⟩ (.int .i64 (v - n))).drew = w1 at *
      have cs := M2.1.s j hj
      have fs := M2.1.f j
      rw [Z.out.2.2.2] at cs
      go_wp2_with fail
      go_region
      go_wp2_with fail
      go_ret
      exact ⟨_, rfl, err_none A rfl, PurAt.of _ (pa_drew (pa_setO M2 j hj _)) Z.out.2.1 Z.out.2.2.1⟩
end Go.Proofs.YtmbfdhekplnoaaaGreatDoor
