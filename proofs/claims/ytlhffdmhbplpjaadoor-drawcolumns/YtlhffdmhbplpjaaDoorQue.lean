/-
  A row of numbers of the call's own that is cut at its front and grown at its end: a slice value, its numbers, one law for append.
-/
import Derived.Test.YtlhffdmhbplpjaaDoorKept
import Derived.ArgAppend
import Derived.Deep.OwnRows
namespace Go.Proofs.YtlhffdmhbplpjaaDoor
open Go.RowKit

/-- the slice v holds the numbers xs; its array lies in a block from 'base' on -/
def Que (w : World) (e : TypeId) (base : Nat) (v : Value) (xs : List Int) : Prop :=
  (v = .slice none 0 0 ∧ xs = []) ∨
  ∃ b o cap cur, v = .slice (some ⟨b, o, none⟩) xs.length cap ∧ base ≤ b ∧ w.heap[b]? = some (.cells cur e (0, 0)) ∧ xs.length ≤ cap ∧ cap ≤ maxLen ∧ o + cap ≤ cur.size ∧ ∀ i x, xs[i]? = some x → cur[o + i]? = some (.int .i64 x)
theorem Que.nil (w : World) (e : TypeId) (base : Nat) : Que w e base (.slice none 0 0) [] := .inl ⟨rfl, rfl⟩
theorem Que.of {w w' : World} {e : TypeId} {base : Nat} {v : Value} {xs : List Int} (h : Que w e base v xs) (hB : ∀ k, v.ownBlock = some k → w'.heap[k]? = w.heap[k]?) : Que w' e base v xs := by
  rcases h with h | ⟨b, o, cap, cur, rfl, hb, hh, rest⟩
  · exact .inl h
  · exact .inr ⟨b, o, cap, cur, rfl, hb, (hB b rfl).trans hh, rest⟩
theorem Que.lt {w : World} {e : TypeId} {base : Nat} {v : Value} {xs : List Int} (h : Que w e base v xs) : ∀ k, v.ownBlock = some k → base ≤ k ∧ k < w.heap.size := by
  intro k hk
  rcases h with ⟨rfl, _⟩ | ⟨b, o, cap, cur, rfl, hb, hh, _⟩
  · simp [Value.ownBlock] at hk
  · simp [Value.ownBlock] at hk
    subst hk
    exact ⟨hb, (Array.getElem?_eq_some_iff.1 hh).1⟩
theorem Que.alloc {w : World} {e : TypeId} {base : Nat} {v : Value} {xs : List Int} (h : Que w e base v xs) (o : Obj) : Que (w.alloc o) e base v xs :=
  h.of fun k hk => Below.heap_alloc _ _ _ (h.lt k hk).2
theorem Que.drew {w : World} {e : TypeId} {base : Nat} {v : Value} {xs : List Int} (h : Que w e base v xs) : Que w.drew e base v xs := h
theorem Que.drewN {w : World} {e : TypeId} {base : Nat} {v : Value} {xs : List Int} (h : Que w e base v xs) (n : Nat) : Que (w.drewN n) e base v xs := h
theorem Que.setCell {w : World} {e : TypeId} {base : Nat} {v : Value} {xs : List Int} (h : Que w e base v xs) (p : Addr) (u : Value) (hp : v.ownBlock ≠ some p.block) : Que (w.setCell p u) e base v xs :=
  h.of fun k hk => Below.heap_setCell _ _ _ _ (fun g => hp (by rw [hk, g]))
theorem Que.kept {w w' : World} {e : TypeId} {base : Nat} {v : Value} {xs : List Int} {X : List Nat} (h : Que w e base v xs) (hK : Kept X w w') (hx : ∀ k, v.ownBlock = some k → k ∉ X) : Que w' e base v xs :=
  h.of fun k hk => hK.block k (h.lt k hk).2 (hx k hk)
theorem Que.grown {w w' : World} {e : TypeId} {base : Nat} {v : Value} {xs : List Int} {row : Option Nat} (h : Que w e base v xs) (hg : w.grownBy w' row) (hx : ∀ k, v.ownBlock = some k → some k ≠ row) : Que w' e base v xs :=
  h.of fun k hk => hg.block k (h.lt k hk).2 (hx k hk)
/-- its shape -/
theorem Que.shape {w : World} {e : TypeId} {base : Nat} {v : Value} {xs : List Int} (h : Que w e base v xs) : ∃ ao cap, v = .slice ao xs.length cap ∧ xs.length ≤ cap ∧ cap ≤ maxLen := by
  rcases h with ⟨rfl, rfl⟩ | ⟨b, o, cap, cur, rfl, _, _, h1, h2, _⟩
  · exact ⟨none, 0, rfl, Nat.le_refl _, Nat.zero_le _⟩
  · exact ⟨_, cap, rfl, h1, h2⟩
/-- one of its numbers -/
theorem Que.at {w : World} {e : TypeId} {base : Nat} {v : Value} {xs : List Int} (h : Que w e base v xs) (hn : xs ≠ []) :
    ∃ b o cap, v = .slice (some ⟨b, o, none⟩) xs.length cap ∧ base ≤ b ∧ b < w.heap.size ∧ xs.length ≤ cap ∧ cap ≤ maxLen ∧ ∀ i x, xs[i]? = some x → w.cell? ⟨b, o + i, none⟩ = some (.int .i64 x) := by
  rcases h with ⟨_, rfl⟩ | ⟨b, o, cap, cur, rfl, hb, hh, h1, h2, _, h3⟩
  · exact absurd rfl hn
  · exact ⟨b, o, cap, rfl, hb, (Array.getElem?_eq_some_iff.1 hh).1, h1, h2, fun i x hx => by simp [World.cell?, hh, h3 i x hx]⟩
/-- cut at its front -/
theorem Que.tail {w : World} {e : TypeId} {base : Nat} {b o n cap : Nat} {x : Int} {xs : List Int} (h : Que w e base (.slice (some ⟨b, o, none⟩) n cap) (x :: xs)) :
    Que w e base (.slice (if cap = 1 then some ⟨b, o, none⟩ else some ⟨b, o + 1, none⟩) xs.length (cap - 1)) xs := by
  rcases h with ⟨h, _⟩ | ⟨b', o', cap', cur, hv, hb, hh, h1, h2, h4, h3⟩
  · simp at h
  · simp at hv
    obtain ⟨⟨rfl, rfl⟩, rfl, rfl⟩ := hv
    simp at h1
    by_cases hc : cap = 1
    · subst hc
      obtain rfl : xs = [] := List.eq_nil_of_length_eq_zero (by omega)
      exact .inr ⟨b, o, 0, cur, by simp, hb, hh, by simp, Nat.zero_le _, by omega, fun i x hx => by simp at hx⟩
    · rw [if_neg hc]
      exact .inr ⟨b, o + 1, cap - 1, cur, rfl, hb, hh, by omega, by omega, by omega, fun i y hy => by
        have := h3 (i + 1) y (by simpa using hy)
        rw [← this]; congr 1; omega⟩

/-- one more at its end, by its run -/
theorem run_que {P : Program} (w : World) (base : Nat) (t ty e : TypeId) (i : TypeInfo) (ht : P.underlying t = some (.slice e)) (hi : P.info? e = some i) (hz : i.zero = some (.int .i64 0)) (hsize : i.size = 1) (hby : i.bytes = 8)
    (v : Value) (xs : List Int) (h : Que w e base v xs) (ad : Addr) (c : Nat) (x : Int) (hx : w.cell? ad = some (.int .i64 x)) (hl : xs.length ≤ 1000000) (hbase : base ≤ w.heap.size) :
    ∃ v' w', (Builtin.append_ #[t, t] ty #[v, .slice (some ad) 1 c]).run P w = .ok v' w' ∧ Que w' e base v' (xs ++ [x]) ∧ w.grownBy w' v.ownBlock ∧ (v'.ownBlock = v.ownBlock ∨ ∃ k, v'.ownBlock = some k ∧ w.heap.size ≤ k) := by
  have hnews : ∀ j u, [Value.int .i64 x][j]? = some u → w.cell? (ad.add j) = some u := by
    intro j u hj
    match j, hj with
    | 0, hj => simp at hj; subst hj; simpa [Addr.add] using hx
  have fresh : ∀ v' w', w'.ownsRow w.heap.size e 1 v' (xs.length + 1) (xs.map (Value.int .i64) ++ [.int .i64 x]) → w.grownBy w' none →
      Que w' e base v' (xs ++ [x]) ∧ w.grownBy w' v.ownBlock ∧ (v'.ownBlock = v.ownBlock ∨ ∃ k, v'.ownBlock = some k ∧ w.heap.size ≤ k) := by
    intro v' w' ho hg
    rcases ho.2 with ⟨_, h0⟩ | ⟨g, cap, cur, rfl, hbg, hgg, h1, h2, h3, h4⟩
    · omega
    · refine ⟨.inr ⟨g, 0, cap, cur, by simp, by omega, hgg, by simpa using h1, h2, by omega, fun i y hy => ?_⟩, ⟨hg.os, hg.tape, hg.output, hg.size, fun k hk _ => hg.block k hk (by simp)⟩, .inr ⟨g, rfl, hbg⟩⟩
      have h5 : (xs.map (Value.int .i64) ++ [.int .i64 x])[i]? = some (.int .i64 y) := by
        have : xs.map (Value.int .i64) ++ [.int .i64 x] = (xs ++ [x]).map (Value.int .i64) := by simp
        rw [this, List.getElem?_map, hy]; rfl
      rw [← h4, List.getElem?_take] at h5
      split at h5
      · simpa using h5
      · cases h5
  rcases h with ⟨rfl, rfl⟩ | ⟨b, o, cap, cur, rfl, hb, hh, h1, h2, h4, h3⟩
  · obtain ⟨v', w', hr, ho, hg, _⟩ := run_append_own (P := P) w w.heap.size t ty e i (.int .i64 0) 1 8 ht hi hz hsize hby rfl (by decide) (.slice none 0 0) 0 [] (World.ownsRow_nil w _ e 1) ad 1 c [.int .i64 x] rfl hnews (by simp [Value.oneCell']) (by decide) (by decide) (Nat.le_refl _)
    exact ⟨v', w', hr, fresh v' w' (by simpa using ho) hg⟩
  · by_cases hr : xs.length + 1 ≤ cap
    · have hs : o + xs.length < cur.size := by omega
      have hc : (w.cell? ⟨b, o + xs.length, none⟩).isSome = true := by simp [World.cell?, hh, hs]
      have hf : w.frozen? ⟨b, o + xs.length, none⟩ = false := by simp [World.frozen?, hh]
      have run := run_append_room_cells (P := P) w t ty e i ht hi b o xs.length cap ad 1 c [.int .i64 x] (by rw [hsize]; rfl) hnews (by simp [Value.oneCell']) hr
        (fun j hj => by simp at hj; subst hj; rw [hsize]; simpa using hc) (fun j hj => by simp at hj; subst hj; rw [hsize]; simpa using hf)
      rw [hsize, Nat.mul_one] at run
      refine ⟨_, _, run, .inr ⟨b, o, cap, cur.setIfInBounds (o + xs.length) (.int .i64 x), by simp, hb, ?_, by simpa using hr, h2, by simpa using h4, fun i y hy => ?_⟩, ⟨rfl, rfl, rfl, ?_, fun k _ hk => ?_⟩, .inl rfl⟩
      · simp [World.setCells, World.setCell, Array.getElem?_modify, hh]
      · rw [Array.getElem?_setIfInBounds]
        by_cases e : i = xs.length
        · subst e
          simp at hy
          simp [hs, hy]
        · have hlt : i < xs.length := by
            have := (List.getElem?_eq_some_iff.1 hy).1
            simp at this
            omega
          rw [if_neg (by omega)]
          exact h3 i y (by rw [← hy, List.getElem?_append_left hlt])
      · simp [World.setCells, World.setCell]
      · exact Below.heap_setCell _ _ _ _ (fun g => hk (by simp [Value.ownBlock, g]))
    · obtain ⟨v', w', hr, ho, hg⟩ := run_append_arg_grows (P := P) w t ty e i (.int .i64 0) 1 8 ht hi hz hsize hby rfl (by decide) ⟨b, o, none⟩ xs.length cap (xs.map (Value.int .i64)) (by simp)
        (fun j u hj => by
          rw [List.getElem?_map] at hj
          obtain ⟨y, hy, rfl⟩ := Option.map_eq_some_iff.1 hj
          rw [Addr.add_lit]
          simp [World.cell?, hh, h3 j y hy]) ad 1 c [.int .i64 x] rfl hnews (by omega) (by simp only [maxLen]; omega) (by omega)
      exact ⟨v', w', hr, fresh v' w' ho hg⟩

theorem wpList_que {P : Program} (w : World) {ops : Array Oper} {rest : List Oper} {o : Oper} {a : Act} {Q : Exit → Act → World → Prop} (hgd : o.guard = none) (s y : Operand) (t : TypeId)
    (ho : o.op = .call { callee := .builtin .append, args := #[s, y], argTypes := #[t, t] }) (base : Nat) (e : TypeId) (i : TypeInfo) (ht : P.underlying t = some (.slice e)) (hi : P.info? e = some i) (hz : i.zero = some (.int .i64 0)) (hsize : i.size = 1) (hby : i.bytes = 8)
    (v : Value) (xs : List Int) (hs : a.eval s = v) (hq : Que w e base v xs) (ad : Addr) (c : Nat) (x : Int) (hx : a.eval y = .slice (some ad) 1 c) (hc : w.cell? ad = some (.int .i64 x)) (hl : xs.length ≤ 1000000) (hbase : base ≤ w.heap.size)
    (h : ∀ v' w', Que w' e base v' (xs ++ [x]) → w.grownBy w' v.ownBlock → (v'.ownBlock = v.ownBlock ∨ ∃ k, v'.ownBlock = some k ∧ w.heap.size ≤ k) → wpList P ops Q rest (a.put o.dst v') w') : wpList P ops Q (o :: rest) a w := by
  obtain ⟨v', w', hr, h2, h3, h4⟩ := run_que (P := P) w base t o.type e i ht hi hz hsize hby v xs hq ad c x hc hl hbase
  refine wpList_plain hgd fun K hK => ?_
  unfold Oper.wp execOp
  simp only [ho, resolve, invoke, builtin, Sem.run_bind, Sem.run_pure, Result.andThen_ok, List.map_toArray, List.map_cons, List.map_nil, hs, hx, hr]
  exact hK _ _ (h v' w' h2 h3 h4)
end Go.Proofs.YtlhffdmhbplpjaaDoor
