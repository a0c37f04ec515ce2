/-
  Weights that are none, as a slice has them; errors with their places.
  A row of numbers of the call's own that is cut at its front and grown at its end: a slice value, its numbers, one law for append.
  The program's columns under way, as they lie in memory: what each thing that a round does makes of them.
-/
import Derived.Test.YtaihcceobnfmhaaDoorWaitsMathX
import Derived.Test.YtaihcceobnfmhaaDoorProgDraw
import Derived.Test.YtaihcceobnfmhaaDoorKeptPX
import Derived.ArgAppend
import Derived.Deep.OwnRows
namespace Go.Proofs.YtaihcceobnfmhaaDoor
open Go.RowKit

/-- what is wrong with weights: an error's number and place -/
inductive WCase (w : World) (v : Value) : Int → Int → Prop
  | shape (a : Option Addr) (n cap : Nat) (h : n = 0 ∨ 64 < n) (hm : n ≤ 9223372036854775807) (e : v = .slice a n cap) : WCase w v 3 (-1)
  | bad (b off n cap k0 : Nat) (W : Nat → Int) (hI : Ints w b off n W) (hb : b < w.heap.size) (n1 : 1 ≤ n) (n64 : n ≤ 64) (hk0 : k0 < n) (hG : ∀ i, i < k0 → WOk (W i)) (hbad : ¬ WOk (W k0)) (e : v = .slice (some ⟨b, off, none⟩) n cap) : WCase w v 2 k0
  | none (b off n cap : Nat) (W : Nat → Int) (hI : Ints w b off n W) (hb : b < w.heap.size) (hW : Weights n W) (h0 : sumTo W n = 0) (e : v = .slice (some ⟨b, off, none⟩) n cap) : WCase w v 4 (-1)
theorem WCase.below {w w' : World} {v : Value} {z p : Int} (h : WCase w v z p) (hB : Below w.heap.size w w') : WCase w' v z p := by
  cases h with
  | shape a n cap h hm e => exact .shape a n cap h hm e
  | bad b off n cap k0 W hI hb n1 n64 hk0 hG hbad e => exact .bad b off n cap k0 W (hI.below hB hb) (Nat.lt_of_lt_of_le hb hB.size) n1 n64 hk0 hG hbad e
  | none b off n cap W hI hb hW h0 e => exact .none b off n cap W (hI.below hB hb) (Nat.lt_of_lt_of_le hb hB.size) hW h0 e
theorem WCase.pos {w : World} {v : Value} {z p : Int} (h : WCase w v z p) : 0 < z := by cases h <;> decide
/-- an error's value: bare, or a new fault with its place -/
def ErrAt (B : Nat) (w : World) (A : Nat → Addr) (e : Value) (z p : Int) : Prop := (∃ i : Nat, i < 10 ∧ z = i + 1 ∧ p = -1 ∧ e = sent (A i)) ∨ ∃ m i : Nat, B ≤ m ∧ i < 10 ∧ z = i + 1 ∧ e = fault m ∧ w.cell? ⟨m, 0, none⟩ = some (.int .i64 p) ∧ w.cell? ⟨m, 1, none⟩ = some (sent (A i))
theorem ErrAt.below {B : Nat} {w w' : World} {A : Nat → Addr} {e : Value} {z p : Int} (h : ErrAt B w A e z p) (hB : Below w.heap.size w w') : ErrAt B w' A e z p := by
  rcases h with h | ⟨m, i, hm, hi, hz, he, c0, c1⟩
  · exact .inl h
  · exact .inr ⟨m, i, hm, hi, hz, he, draw_old hB c0, draw_old hB c1⟩
theorem ErrAt.setCell {B : Nat} {w : World} {A : Nat → Addr} {e : Value} {z p : Int} (h : ErrAt B w A e z p) {q : Addr} (hq : q.block < B) (u : Value) : ErrAt B (w.setCell q u) A e z p := by
  rcases h with h | ⟨m, i, hm, hi, hz, he, c0, c1⟩
  · exact .inl h
  · exact .inr ⟨m, i, hm, hi, hz, he, by rw [World.cell?_setCell_other _ _ _ _ (fun e => by rw [e] at hq; exact absurd hq (Nat.not_lt.2 hm))]; exact c0, by rw [World.cell?_setCell_other _ _ _ _ (fun e => by rw [e] at hq; exact absurd hq (Nat.not_lt.2 hm))]; exact c1⟩
end Go.Proofs.YtaihcceobnfmhaaDoor

namespace Go.Proofs.YtaihcceobnfmhaaDoor
open Go.RowKit

/-- the slice v holds the numbers xs; its array lies in a block from 'base' on -/
def Que (w : World) (e : TypeId) (base : Nat) (v : Value) (xs : List Int) : Prop :=
  (v = .slice none 0 0 ∧ xs = []) ∨
  ∃ b o cap cur, v = .slice (some ⟨b, o, none⟩) xs.length cap ∧ base ≤ b ∧ w.heap[b]? = some (.cells cur e (0, 0)) ∧ xs.length ≤ cap ∧ cap ≤ maxLen ∧ o + cap ≤ cur.size ∧ ∀ i x, xs[i]? = some x → cur[o + i]? = some (.int .i64 x)
theorem Que.nil (w : World) (e : TypeId) (base : Nat) : Que w e base (.slice none 0 0) [] := .inl ⟨rfl, rfl⟩
theorem Que.of {w w' : World} {e : TypeId} {base : Nat} {v : Value} {xs : List Int} (h : Que w e base v xs) (hB : ∀ k, v.ownBlock = some k → w'.heap[k]? = w.heap[k]?) : Que w' e base v xs := by
  rcases h with h | ⟨b, o, cap, cur, rfl, hb, hh, rest⟩
  · exact .inl h
  · exact .inr ⟨b, o, cap, cur, rfl, hb, (hB b rfl).trans hh, rest⟩
theorem Que.lt {w : World} {e : TypeId} {base : Nat} {v : Value} {xs : List Int} (h : Que w e base v xs) : ∀ k, v.ownBlock = some k → base ≤ k ∧ k < w.heap.size := by
  intro k hk
  rcases h with ⟨rfl, _⟩ | ⟨b, o, cap, cur, rfl, hb, hh, _⟩
  · simp [Value.ownBlock] at hk
  · simp [Value.ownBlock] at hk
    subst hk
    exact ⟨hb, (Array.getElem?_eq_some_iff.1 hh).1⟩
theorem Que.alloc {w : World} {e : TypeId} {base : Nat} {v : Value} {xs : List Int} (h : Que w e base v xs) (o : Obj) : Que (w.alloc o) e base v xs :=
  h.of fun k hk => Below.heap_alloc _ _ _ (h.lt k hk).2
theorem Que.drew {w : World} {e : TypeId} {base : Nat} {v : Value} {xs : List Int} (h : Que w e base v xs) : Que w.drew e base v xs := h
theorem Que.drewN {w : World} {e : TypeId} {base : Nat} {v : Value} {xs : List Int} (h : Que w e base v xs) (n : Nat) : Que (w.drewN n) e base v xs := h
theorem Que.setCell {w : World} {e : TypeId} {base : Nat} {v : Value} {xs : List Int} (h : Que w e base v xs) (p : Addr) (u : Value) (hp : v.ownBlock ≠ some p.block) : Que (w.setCell p u) e base v xs :=
  h.of fun k hk => Below.heap_setCell _ _ _ _ (fun g => hp (by rw [hk, g]))
theorem Que.kept {w w' : World} {e : TypeId} {base : Nat} {v : Value} {xs : List Int} {X : List Nat} (h : Que w e base v xs) (hK : Kept X w w') (hx : ∀ k, v.ownBlock = some k → k ∉ X) : Que w' e base v xs :=
  h.of fun k hk => hK.block k (h.lt k hk).2 (hx k hk)
theorem Que.grown {w w' : World} {e : TypeId} {base : Nat} {v : Value} {xs : List Int} {row : Option Nat} (h : Que w e base v xs) (hg : w.grownBy w' row) (hx : ∀ k, v.ownBlock = some k → some k ≠ row) : Que w' e base v xs :=
  h.of fun k hk => hg.block k (h.lt k hk).2 (hx k hk)
/-- its shape -/
theorem Que.shape {w : World} {e : TypeId} {base : Nat} {v : Value} {xs : List Int} (h : Que w e base v xs) : ∃ ao cap, v = .slice ao xs.length cap ∧ xs.length ≤ cap ∧ cap ≤ maxLen := by
  rcases h with ⟨rfl, rfl⟩ | ⟨b, o, cap, cur, rfl, _, _, h1, h2, _⟩
  · exact ⟨none, 0, rfl, Nat.le_refl _, Nat.zero_le _⟩
  · exact ⟨_, cap, rfl, h1, h2⟩
/-- one of its numbers -/
theorem Que.at {w : World} {e : TypeId} {base : Nat} {v : Value} {xs : List Int} (h : Que w e base v xs) (hn : xs ≠ []) :
    ∃ b o cap, v = .slice (some ⟨b, o, none⟩) xs.length cap ∧ base ≤ b ∧ b < w.heap.size ∧ xs.length ≤ cap ∧ cap ≤ maxLen ∧ ∀ i x, xs[i]? = some x → w.cell? ⟨b, o + i, none⟩ = some (.int .i64 x) := by
  rcases h with ⟨_, rfl⟩ | ⟨b, o, cap, cur, rfl, hb, hh, h1, h2, _, h3⟩
  · exact absurd rfl hn
  · exact ⟨b, o, cap, rfl, hb, (Array.getElem?_eq_some_iff.1 hh).1, h1, h2, fun i x hx => by simp [World.cell?, hh, h3 i x hx]⟩
/-- cut at its front -/
theorem Que.tail {w : World} {e : TypeId} {base : Nat} {b o n cap : Nat} {x : Int} {xs : List Int} (h : Que w e base (.slice (some ⟨b, o, none⟩) n cap) (x :: xs)) :
    Que w e base (.slice (if cap = 1 then some ⟨b, o, none⟩ else some ⟨b, o + 1, none⟩) xs.length (cap - 1)) xs := by
  rcases h with ⟨h, _⟩ | ⟨b', o', cap', cur, hv, hb, hh, h1, h2, h4, h3⟩
  · simp at h
  · simp at hv
    obtain ⟨⟨rfl, rfl⟩, rfl, rfl⟩ := hv
    simp at h1
    by_cases hc : cap = 1
    · subst hc
      obtain rfl : xs = [] := List.eq_nil_of_length_eq_zero (by omega)
      exact .inr ⟨b, o, 0, cur, by simp, hb, hh, by simp, Nat.zero_le _, by omega, fun i x hx => by simp at hx⟩
    · rw [if_neg hc]
      exact .inr ⟨b, o + 1, cap - 1, cur, rfl, hb, hh, by omega, by omega, by omega, fun i y hy => by
        have := h3 (i + 1) y (by simpa using hy)
        rw [← this]; congr 1; omega⟩

/-- one more at its end, by its run -/
theorem run_que {P : Program} (w : World) (base : Nat) (t ty e : TypeId) (i : TypeInfo) (ht : P.underlying t = some (.slice e)) (hi : P.info? e = some i) (hz : i.zero = some (.int .i64 0)) (hsize : i.size = 1) (hby : i.bytes = 8)
    (v : Value) (xs : List Int) (h : Que w e base v xs) (ad : Addr) (c : Nat) (x : Int) (hx : w.cell? ad = some (.int .i64 x)) (hl : xs.length ≤ 1000000) (hbase : base ≤ w.heap.size) :
    ∃ v' w', (Builtin.append_ #[t, t] ty #[v, .slice (some ad) 1 c]).run P w = .ok v' w' ∧ Que w' e base v' (xs ++ [x]) ∧ w.grownBy w' v.ownBlock ∧ (v'.ownBlock = v.ownBlock ∨ ∃ k, v'.ownBlock = some k ∧ w.heap.size ≤ k) := by
  have hnews : ∀ j u, [Value.int .i64 x][j]? = some u → w.cell? (ad.add j) = some u := by
    intro j u hj
    match j, hj with
    | 0, hj => simp at hj; subst hj; simpa [Addr.add] using hx
  have fresh : ∀ v' w', w'.ownsRow w.heap.size e 1 v' (xs.length + 1) (xs.map (Value.int .i64) ++ [.int .i64 x]) → w.grownBy w' none →
      Que w' e base v' (xs ++ [x]) ∧ w.grownBy w' v.ownBlock ∧ (v'.ownBlock = v.ownBlock ∨ ∃ k, v'.ownBlock = some k ∧ w.heap.size ≤ k) := by
    intro v' w' ho hg
    rcases ho.2 with ⟨_, h0⟩ | ⟨g, cap, cur, rfl, hbg, hgg, h1, h2, h3, h4⟩
    · omega
    · refine ⟨.inr ⟨g, 0, cap, cur, by simp, by omega, hgg, by simpa using h1, h2, by omega, fun i y hy => ?_⟩, ⟨hg.os, hg.tape, hg.output, hg.size, fun k hk _ => hg.block k hk (by simp)⟩, .inr ⟨g, rfl, hbg⟩⟩
      have h5 : (xs.map (Value.int .i64) ++ [.int .i64 x])[i]? = some (.int .i64 y) := by
        have : xs.map (Value.int .i64) ++ [.int .i64 x] = (xs ++ [x]).map (Value.int .i64) := by simp
        rw [this, List.getElem?_map, hy]; rfl
      rw [← h4, List.getElem?_take] at h5
      split at h5
      · simpa using h5
      · cases h5
  rcases h with ⟨rfl, rfl⟩ | ⟨b, o, cap, cur, rfl, hb, hh, h1, h2, h4, h3⟩
  · obtain ⟨v', w', hr, ho, hg, _⟩ := run_append_own (P := P) w w.heap.size t ty e i (.int .i64 0) 1 8 ht hi hz hsize hby rfl (by decide) (.slice none 0 0) 0 [] (World.ownsRow_nil w _ e 1) ad 1 c [.int .i64 x] rfl hnews (by simp [Value.oneCell']) (by decide) (by decide) (Nat.le_refl _)
    exact ⟨v', w', hr, fresh v' w' (by simpa using ho) hg⟩
  · by_cases hr : xs.length + 1 ≤ cap
    · have hs : o + xs.length < cur.size := by omega
      have hc : (w.cell? ⟨b, o + xs.length, none⟩).isSome = true := by simp [World.cell?, hh, hs]
      have hf : w.frozen? ⟨b, o + xs.length, none⟩ = false := by simp [World.frozen?, hh]
      have run := run_append_room_cells (P := P) w t ty e i ht hi b o xs.length cap ad 1 c [.int .i64 x] (by rw [hsize]; rfl) hnews (by simp [Value.oneCell']) hr
        (fun j hj => by simp at hj; subst hj; rw [hsize]; simpa using hc) (fun j hj => by simp at hj; subst hj; rw [hsize]; simpa using hf)
      rw [hsize, Nat.mul_one] at run
      refine ⟨_, _, run, .inr ⟨b, o, cap, cur.setIfInBounds (o + xs.length) (.int .i64 x), by simp, hb, ?_, by simpa using hr, h2, by simpa using h4, fun i y hy => ?_⟩, ⟨rfl, rfl, rfl, ?_, fun k _ hk => ?_⟩, .inl rfl⟩
      · simp [World.setCells, World.setCell, Array.getElem?_modify, hh]
      · rw [Array.getElem?_setIfInBounds]
        by_cases e : i = xs.length
        · subst e
          simp at hy
          simp [hs, hy]
        · have hlt : i < xs.length := by
            have := (List.getElem?_eq_some_iff.1 hy).1
            simp at this
            omega
          rw [if_neg (by omega)]
          exact h3 i y (by rw [← hy, List.getElem?_append_left hlt])
      · simp [World.setCells, World.setCell]
      · exact Below.heap_setCell _ _ _ _ (fun g => hk (by simp [Value.ownBlock, g]))
    · obtain ⟨v', w', hr, ho, hg⟩ := run_append_arg_grows (P := P) w t ty e i (.int .i64 0) 1 8 ht hi hz hsize hby rfl (by decide) ⟨b, o, none⟩ xs.length cap (xs.map (Value.int .i64)) (by simp)
        (fun j u hj => by
          rw [List.getElem?_map] at hj
          obtain ⟨y, hy, rfl⟩ := Option.map_eq_some_iff.1 hj
          rw [Addr.add_lit]
          simp [World.cell?, hh, h3 j y hy]) ad 1 c [.int .i64 x] rfl hnews (by omega) (by simp only [maxLen]; omega) (by omega)
      exact ⟨v', w', hr, fresh v' w' ho hg⟩

theorem wpList_que {P : Program} (w : World) {ops : Array Oper} {rest : List Oper} {o : Oper} {a : Act} {Q : Exit → Act → World → Prop} (hgd : o.guard = none) (s y : Operand) (t : TypeId)
    (ho : o.op = .call { callee := .builtin .append, args := #[s, y], argTypes := #[t, t] }) (base : Nat) (e : TypeId) (i : TypeInfo) (ht : P.underlying t = some (.slice e)) (hi : P.info? e = some i) (hz : i.zero = some (.int .i64 0)) (hsize : i.size = 1) (hby : i.bytes = 8)
    (v : Value) (xs : List Int) (hs : a.eval s = v) (hq : Que w e base v xs) (ad : Addr) (c : Nat) (x : Int) (hx : a.eval y = .slice (some ad) 1 c) (hc : w.cell? ad = some (.int .i64 x)) (hl : xs.length ≤ 1000000) (hbase : base ≤ w.heap.size)
    (h : ∀ v' w', Que w' e base v' (xs ++ [x]) → w.grownBy w' v.ownBlock → (v'.ownBlock = v.ownBlock ∨ ∃ k, v'.ownBlock = some k ∧ w.heap.size ≤ k) → wpList P ops Q rest (a.put o.dst v') w') : wpList P ops Q (o :: rest) a w := by
  obtain ⟨v', w', hr, h2, h3, h4⟩ := run_que (P := P) w base t o.type e i ht hi hz hsize hby v xs hq ad c x hc hl hbase
  refine wpList_plain hgd fun K hK => ?_
  unfold Oper.wp execOp
  simp only [ho, resolve, invoke, builtin, Sem.run_bind, Sem.run_pure, Result.andThen_ok, List.map_toArray, List.map_cons, List.map_nil, hs, hx, hr]
  exact hK _ _ (h v' w' h2 h3 h4)
end Go.Proofs.YtaihcceobnfmhaaDoor

namespace Go.Proofs.YtaihcceobnfmhaaDoor
open Go.RowKit

/-- numbers of a row, as Go's -/
def ints (l : List Nat) : List Int := l.map (fun (x : Nat) => (x : Int))
theorem ints_len (l : List Nat) : (ints l).length = l.length := by simp [ints]
theorem ints_append (l : List Nat) (k : Nat) : ints (l ++ [k]) = ints l ++ [(k : Int)] := by simp [ints]
theorem ints_cons (k : Nat) (l : List Nat) : ints (k :: l) = (k : Int) :: ints l := rfl

/-- a column's two cells -/
def colv (line : Nat → Int) (other : Nat → Nat) (j : Nat) : Value := .int .i64 (if j % 2 = 0 then line (j / 2) else other (j / 2))

structure FillAt (w : World) (B n : Nat) (H : Int) (rest line : Nat → Int) (other : Nat → Nat) (sv gv : Value) (small great : List Nat) : Prop where
  h : w.heap[B]? = some (.cells #[.int .i64 H] 3 (0, 0))
  c : w.rowIs (B + 1) 100 (n * 2) (colv line other)
  r : w.rowIs (B + 2) 3 n (fun j => .int .i64 (rest j))
  v : w.heap[B + 3]? = some (.cells #[.slice (some ⟨B + 2, 0, none⟩) n n] 43 (0, 0))
  s : Que w 3 (B + 4) sv (ints small)
  g : Que w 3 (B + 4) gv (ints great)
  ne : ∀ k, sv.ownBlock = some k → gv.ownBlock ≠ some k

section
variable {w : World} {B n : Nat} {H : Int} {rest line : Nat → Int} {other : Nat → Nat} {sv gv : Value} {small great : List Nat}
theorem FillAt.size (h : FillAt w B n H rest line other sv gv small great) : B + 4 ≤ w.heap.size := by
  have := (Array.getElem?_eq_some_iff.1 h.v).1
  omega
theorem FillAt.cH (h : FillAt w B n H rest line other sv gv small great) : w.cell? ⟨B, 0, none⟩ = some (.int .i64 H) := by simp [World.cell?, h.h]
theorem FillAt.cV (h : FillAt w B n H rest line other sv gv small great) : w.cell? ⟨B + 3, 0, none⟩ = some (.slice (some ⟨B + 2, 0, none⟩) n n) := by simp [World.cell?, h.v]
theorem FillAt.cR (h : FillAt w B n H rest line other sv gv small great) {k : Nat} (hk : k < n) : w.cell? ⟨B + 2, k, none⟩ = some (.int .i64 (rest k)) := h.r.cell hk
theorem FillAt.fR (h : FillAt w B n H rest line other sv gv small great) (k : Nat) : w.frozen? ⟨B + 2, k, none⟩ = false := h.r.frozen k
theorem FillAt.cL (h : FillAt w B n H rest line other sv gv small great) {k : Nat} (hk : k < n) : w.cell? ⟨B + 1, k * 2, none⟩ = some (.int .i64 (line k)) := by
  rw [h.c.cell (show k * 2 < n * 2 by omega)]
  have e1 : k * 2 % 2 = 0 := by omega
  have e2 : k * 2 / 2 = k := by omega
  simp [colv, e1, e2]
theorem FillAt.cO (h : FillAt w B n H rest line other sv gv small great) {k : Nat} (hk : k < n) : w.cell? ⟨B + 1, k * 2 + 1, none⟩ = some (.int .i64 (other k)) := by
  rw [h.c.cell (show k * 2 + 1 < n * 2 by omega)]
  have e2 : (k * 2 + 1) / 2 = k := by omega
  simp [colv, e2]
theorem FillAt.fC (h : FillAt w B n H rest line other sv gv small great) (k : Nat) : w.frozen? ⟨B + 1, k, none⟩ = false := h.c.frozen k
theorem FillAt.drewN (h : FillAt w B n H rest line other sv gv small great) (m : Nat) : FillAt (w.drewN m) B n H rest line other sv gv small great := ⟨h.h, h.c, h.r, h.v, h.s, h.g, h.ne⟩
theorem FillAt.drew (h : FillAt w B n H rest line other sv gv small great) : FillAt w.drew B n H rest line other sv gv small great := ⟨h.h, h.c, h.r, h.v, h.s, h.g, h.ne⟩
theorem que_off {e : TypeId} {base : Nat} {v : Value} {xs : List Int} (h : Que w e base v xs) {b : Nat} (hb : b < base) : v.ownBlock ≠ some b := fun g => by have := (h.lt b g).1; omega
/-- a store into the rests -/
theorem FillAt.setR (h : FillAt w B n H rest line other sv gv small great) (k : Nat) (x : Int) : FillAt (w.setCell ⟨B + 2, k, none⟩ (.int .i64 x)) B n H (upd rest k x) line other sv gv small great where
  h := (Below.heap_setCell _ _ _ _ (by simp)).trans h.h
  c := h.c.setOther (by simp) _
  r := (h.r.set k _).congr (fun i _ => by
    show (if i = k then Value.int .i64 x else .int .i64 (rest i)) = .int .i64 (upd rest k x i)
    unfold upd; split <;> rfl)
  v := (Below.heap_setCell _ _ _ _ (by simp)).trans h.v
  s := h.s.setCell _ _ (que_off h.s (by simp))
  g := h.g.setCell _ _ (que_off h.g (by simp))
  ne := h.ne
/-- a store into a column -/
theorem FillAt.setC (h : FillAt w B n H rest line other sv gv small great) (k : Nat) (x : Int) (o : Nat) : FillAt ((w.setCell ⟨B + 1, k * 2, none⟩ (.int .i64 x)).setCell ⟨B + 1, k * 2 + 1, none⟩ (.int .i64 o)) B n H rest (upd line k x) (upd other k o) sv gv small great where
  h := ((Below.heap_setCell _ _ _ _ (by simp)).trans (Below.heap_setCell _ _ _ _ (by simp))).trans h.h
  c := ((h.c.set (k * 2) _).set (k * 2 + 1) _).congr (fun i _ => by
    show (if i = k * 2 + 1 then Value.int .i64 o else if i = k * 2 then .int .i64 x else colv line other i) = colv (upd line k x) (upd other k o) i
    unfold colv upd
    by_cases e1 : i = k * 2 + 1
    · subst e1
      have e2 : (k * 2 + 1) / 2 = k := by omega
      simp [e2]
    · rw [if_neg e1]
      by_cases e3 : i = k * 2
      · subst e3
        have e4 : k * 2 % 2 = 0 := by omega
        have e5 : k * 2 / 2 = k := by omega
        simp [e4, e5]
      · rw [if_neg e3]
        have e6 : ¬ i / 2 = k := by omega
        simp [e6])
  r := (h.r.setOther (by simp) _).setOther (by simp) _
  v := ((Below.heap_setCell _ _ _ _ (by simp)).trans (Below.heap_setCell _ _ _ _ (by simp))).trans h.v
  s := (h.s.setCell _ _ (que_off h.s (by simp))).setCell _ _ (que_off h.s (by simp))
  g := (h.g.setCell _ _ (que_off h.g (by simp))).setCell _ _ (que_off h.g (by simp))
  ne := h.ne
theorem FillAt.alloc (h : FillAt w B n H rest line other sv gv small great) (o : Obj) : FillAt (w.alloc o) B n H rest line other sv gv small great where
  h := (Below.heap_alloc _ _ _ (Array.getElem?_eq_some_iff.1 h.h).1).trans h.h
  c := h.c.alloc o
  r := h.r.alloc o
  v := (Below.heap_alloc _ _ _ (Array.getElem?_eq_some_iff.1 h.v).1).trans h.v
  s := h.s.alloc o
  g := h.g.alloc o
  ne := h.ne
/-- one more among the small ones -/
theorem FillAt.pushS {w' : World} {sv' : Value} {k : Nat} (h : FillAt w B n H rest line other sv gv small great) (hq : Que w' 3 (B + 4) sv' (ints small ++ [(k : Int)])) (hg : w.grownBy w' sv.ownBlock)
    (ho : sv'.ownBlock = sv.ownBlock ∨ ∃ k, sv'.ownBlock = some k ∧ w.heap.size ≤ k) : FillAt w' B n H rest line other sv' gv (small ++ [k]) great := by
  have hs := h.size
  have off : ∀ b, b < B + 4 → some b ≠ sv.ownBlock := fun b hb e => que_off h.s hb e.symm
  exact {
    h := (hg.block B (by omega) (off B (by omega))).trans h.h
    c := h.c.of_block (hg.block _ (by omega) (off _ (by omega)))
    r := h.r.of_block (hg.block _ (by omega) (off _ (by omega)))
    v := (hg.block _ (by omega) (off _ (by omega))).trans h.v
    s := by rw [ints_append]; exact hq
    g := h.g.grown hg (fun k hk e => h.ne k e.symm hk)
    ne := fun j hj hk => by
      rcases ho with e | ⟨i, e, hi⟩
      · exact h.ne j (e.symm.trans hj) hk
      · obtain rfl := Option.some.inj (e.symm.trans hj)
        have := (h.g.lt i hk).2
        omega }
/-- one more among the great ones -/
theorem FillAt.pushG {w' : World} {gv' : Value} {k : Nat} (h : FillAt w B n H rest line other sv gv small great) (hq : Que w' 3 (B + 4) gv' (ints great ++ [(k : Int)])) (hg : w.grownBy w' gv.ownBlock)
    (ho : gv'.ownBlock = gv.ownBlock ∨ ∃ k, gv'.ownBlock = some k ∧ w.heap.size ≤ k) : FillAt w' B n H rest line other sv gv' small (great ++ [k]) := by
  have hs := h.size
  have off : ∀ b, b < B + 4 → some b ≠ gv.ownBlock := fun b hb e => que_off h.g hb e.symm
  exact {
    h := (hg.block B (by omega) (off B (by omega))).trans h.h
    c := h.c.of_block (hg.block _ (by omega) (off _ (by omega)))
    r := h.r.of_block (hg.block _ (by omega) (off _ (by omega)))
    v := (hg.block _ (by omega) (off _ (by omega))).trans h.v
    s := h.s.grown hg (fun k hk e => h.ne k hk e.symm)
    g := by rw [ints_append]; exact hq
    ne := fun j hj hk => by
      rcases ho with e | ⟨i, e, hi⟩
      · exact h.ne j hj (e.symm.trans hk)
      · obtain rfl := Option.some.inj (e.symm.trans hk)
        have := (h.s.lt i hj).2
        omega }
theorem FillAt.as {rest' line' : Nat → Int} {other' : Nat → Nat} (h : FillAt w B n H rest line other sv gv small great) (e1 : ∀ k, k < n → rest k = rest' k) (e2 : ∀ k, k < n → line k = line' k) (e3 : ∀ k, k < n → other k = other' k) :
    FillAt w B n H rest' line' other' sv gv small great where
  h := h.h
  c := h.c.congr (fun i hi => by unfold colv; rw [e2 (i / 2) (by omega), e3 (i / 2) (by omega)])
  r := h.r.congr (fun i hi => by rw [e1 i hi])
  v := h.v
  s := h.s
  g := h.g
  ne := h.ne
end

theorem Tryd.elemInts : Tryd.prog.elem 43 = 3 := by kernel_rfl
theorem sizeInt (w : World) : (sizeOf 3).run Tryd.prog w = .ok 1 w := by kernel_rfl
/-- cut at its front, as the program cuts -/
theorem run_cut (w : World) (b o m cap : Nat) (h0 : 1 ≤ m) :
    (Instr.slice 43 (.slice (some ⟨b, o, none⟩) m cap) (some (.int .i64 1)) none none).run Tryd.prog w = .ok (.slice (if cap = 1 then some ⟨b, o, none⟩ else some ⟨b, o + 1, none⟩) (m - 1) (cap - 1)) w := by
  rw [run_slice_l (P := Tryd.prog) w 43 (some ⟨b, o, none⟩) m cap (by rw [Tryd.elemInts]; exact Tryd.underlying43) .i64 1 (by omega) (by omega), Tryd.elemInts, sizeInt]
  show Result.ok (sliced (some ⟨b, o, none⟩) 1 m cap 1) w = _
  unfold sliced
  simp [add_plain]
/-- the first of a row, and the row without it -/
theorem Que.cut {w : World} {base : Nat} {v : Value} {x : Int} {xs : List Int} (h : Que w 3 base v (x :: xs)) :
    ∃ b o m cap v', v = .slice (some ⟨b, o, none⟩) m cap ∧ m = xs.length + 1 ∧ m ≤ cap ∧ cap ≤ maxLen ∧ base ≤ b ∧ b < w.heap.size ∧ w.cell? ⟨b, o, none⟩ = some (.int .i64 x) ∧
      (∀ w' : World, (Instr.slice 43 v (some (.int .i64 1)) none none).run Tryd.prog w' = .ok v' w') ∧ v'.ownBlock = some b ∧ (∀ w', Que w' 3 base v (x :: xs) → Que w' 3 base v' xs) ∧ ∃ a, v' = .slice a xs.length (cap - 1) := by
  obtain ⟨b, o, cap, rfl, h1, h2, h3, h4, h5⟩ := h.at (by simp)
  have c0 := h5 0 x rfl
  rw [Nat.add_zero] at c0
  refine ⟨b, o, xs.length + 1, cap, .slice (if cap = 1 then some ⟨b, o, none⟩ else some ⟨b, o + 1, none⟩) xs.length (cap - 1), rfl, rfl, h3, h4, h1, h2, c0, fun w' => ?_, ?_, fun w' hq => hq.tail, _, rfl⟩
  · exact run_cut w' b o (xs.length + 1) cap (by omega)
  · split <;> rfl
section
variable {w : World} {B n : Nat} {H : Int} {rest line : Nat → Int} {other : Nat → Nat} {sv gv : Value} {small great : List Nat}
theorem FillAt.cutS {s : Nat} {ss : List Nat} {sv' : Value} (h : FillAt w B n H rest line other sv gv (s :: ss) great) (hc : ∀ w', Que w' 3 (B + 4) sv ((s : Int) :: ints ss) → Que w' 3 (B + 4) sv' (ints ss)) (ho : sv'.ownBlock = sv.ownBlock) :
    FillAt w B n H rest line other sv' gv ss great := ⟨h.h, h.c, h.r, h.v, hc w h.s, h.g, fun k hk => h.ne k (ho.symm.trans hk)⟩
theorem FillAt.cutG {g : Nat} {gs : List Nat} {gv' : Value} (h : FillAt w B n H rest line other sv gv small (g :: gs)) (hc : ∀ w', Que w' 3 (B + 4) gv ((g : Int) :: ints gs) → Que w' 3 (B + 4) gv' (ints gs)) (ho : gv'.ownBlock = gv.ownBlock) :
    FillAt w B n H rest line other sv gv' small gs := ⟨h.h, h.c, h.r, h.v, h.s, hc w h.g, fun k hk hk' => h.ne k hk (ho.symm.trans hk')⟩
end
end Go.Proofs.YtaihcceobnfmhaaDoor
