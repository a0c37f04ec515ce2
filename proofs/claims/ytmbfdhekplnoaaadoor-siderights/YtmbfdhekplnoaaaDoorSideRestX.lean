/-
  THE CALL OF side.Rights, WHOLE, where it does not refuse.
  From the midst of a function by what holds alone; a copy of numbers in company.
  What is left of abreast (the law's closed fact) behind side.Rights, alone.
-/
import Derived.Test.YtmbfdhekplnoaaaDoorRights1X
import Derived.Test.YtmbfdhekplnoaaaDoorIntsOwn
import Derived.Test.YtmbfdhekplnoaaaDoorRefDrawX
import Derived.Test.YtmbfdhekplnoaaaDoorRightMathX
namespace Go.Proofs.YtmbfdhekplnoaaaDoor
open Go Go.Conc Go.RowKit Go.Conc.Lib Go.ConcR.Gen
open Go.ConcR (KK WgAt stA smA)

theorem Rely.less {O Sh : Nat → Prop} {W W1 : World} (h : Rely O Sh W W1) : Rely (fun _ => False) Sh W W1 := ⟨h.size, fun b hb q => h.keep b hb (q.elim (fun z => z.elim) .inr), h.tape, h.os, h.output⟩
section keep
variable {A : Nat → Addr} {n seed M : Nat} {Wt Lv : Nat → Int} {c : Int} {s e : Value} {S R : List Nat} {W W1 : World} {O Sh : Nat → Prop}
theorem AllMade.keep (h : AllMade A n Wt seed c M Lv s e S R W) (hk : ∀ b, S.elem b = true → W1.heap[b]? = W.heap[b]?) (hz : W.heap.size ≤ W1.heap.size) : AllMade A n Wt seed c M Lv s e S R W1 := by
  obtain ⟨hE, h1, h2⟩ := h
  refine ⟨?_, fun x k q e => ⟨(h1 x k q e).1, fun j hj y k' q' z => (h1 x k q e).2 j hj y k' q' ?_⟩, h2⟩
  · rcases hE with ⟨i0, i, m, p, g1, g2, g3, g4, rfl, rfl, g7, g8⟩ | ⟨g1, m, cap', rfl, rfl, ⟨d, t, f, g4⟩, g5⟩
    · have k := hk m (h2 m rfl).1
      exact .inl ⟨i0, i, m, p, g1, g2, g3, g4, rfl, rfl, cell_keep (a := ⟨m, 0, none⟩) k g7, cell_keep (a := ⟨m, 1, none⟩) k g8⟩
    · obtain ⟨q1, q2⟩ := h1 _ _ _ rfl
      refine .inr ⟨g1, m, cap', rfl, rfl, ⟨d, t, f, (hk m q1).trans g4⟩, fun j hj => ?_⟩
      obtain ⟨mj, cj, K, c0, l0, i0, t0⟩ := g5 j hj
      have k := hk mj (q2 j hj _ _ _ c0)
      exact ⟨mj, cj, K, cell_keep (a := ⟨m, j, none⟩) (hk m q1) c0, Nat.lt_of_lt_of_le l0 hz, fun i hi => cell_keep (a := ⟨mj, 0 + i, none⟩) k (i0 i hi), t0⟩
  · unfold World.cell? at z ⊢
    rw [show (⟨x.block, j, none⟩ : Addr).block = x.block from rfl, hk _ (h1 x k q e).1] at z
    exact z
def RtMade (Sh : Nat → Prop) (A : Nat → Addr) (n : Nat) (Wt : Nat → Int) (seed : Nat) (c : Int) (M : Nat) (Lv : Nat → Int) (s e : Value) (S R : List Nat) (O : Nat → Prop) (W : World) : Prop :=
  ∃ bl : List Nat, (∀ b ∈ bl, (O b ∧ Bare W ⟨b, 0, none⟩) ∨ S.elem b = true) ∧ AllMade A n Wt seed c M Lv s e bl R W ∧ ∀ b, O b ∨ Sh b → b < W.heap.size
theorem RtMade.rely (hS : ∀ b, S.elem b = true → Sh b) (h : RtMade Sh A n Wt seed c M Lv s e S R O W) (r : Rely O Sh W W1) : RtMade Sh A n Wt seed c M Lv s e S R O W1 := by
  obtain ⟨bl, h1, h2, h3⟩ := h
  have own : ∀ b ∈ bl, O b ∨ Sh b := fun b hb => (h1 b hb).imp And.left (hS b)
  have kp : ∀ b ∈ bl, W1.heap[b]? = W.heap[b]? := fun b hb => r.keep b (h3 b (own b hb)) (own b hb)
  exact ⟨bl, fun b hb => (h1 b hb).imp (fun z => ⟨z.1, bare_keep z.2 (kp b hb)⟩) id, h2.keep (fun b hb => kp b (by simpa using hb)) r.size, fun b q => Nat.lt_of_lt_of_le (h3 b q) r.size⟩
end keep
section all
variable {S R X : List Nat} {A : Nat → Addr} {Sh O : Nat → Prop} {Post : Value → World → Prop} {cs : List Frame} {wp lp : Option Addr} {wl wc ll lc seed wk : Nat} {cycle : Int} {Wt Lv : Nat → Int} {W0 : World} {b₀ : Frame} {a₀ : Act} {ops₀ : Array Oper} {i₀ : Nat} {rest₀ : List Nat} {k₀ : List Item}
set_option maxRecDepth 100000 in
set_option maxHeartbeats 4000000 in
theorem rights_tail {B : Nat} (H : House W0 S R A) (hS : ∀ b, S.elem b = true → Sh b) (hB : B = W0.heap.size) (hll : ll ≤ 100) {b0 b1 b2 b3 lb : Nat} {W : World} (hr0 : Rely (fun _ => False) Sh W0 W) (lt : ∀ b, Sh b → b < W0.heap.size) (hA : AllIn ll (LvSince B A wl Wt seed cycle Lv) lb O W)
    (h : ∀ O' s e W, RtMade Sh A wl Wt seed cycle ll Lv s e S R O' W → Rely (fun _ => False) Sh W0 W → Walks Tryd.prog true Sh (Ends Tryd.prog Sh Post) O' (G (b₀.at (a₀.put ((ops₀[i₀]?).bind (·.dst)) (.tuple #[s, e])) (.inRegion ops₀ rest₀ :: k₀)) cs) W) :
    Walks Tryd.prog true Sh (Ends Tryd.prog Sh Post) O (G ((base 5).at ((⟨#[.slice wp wl wc, .int .u64 seed, .int .i64 cycle, .slice lp ll lc, .int .i64 wk, .pointer (some ⟨b0, 0, none⟩), .pointer (some ⟨b1, 0, none⟩), .pointer (some ⟨b2, 0, none⟩), .pointer (some ⟨b3, 0, none⟩), undef, .slice none 0 0, .nilIface, .nilIface, .slice lp ll lc, .int .i64 ll, .int .i64 wk, .nilIface, .nilIface, .bool false, undef, .slice lp ll lc, .int .i64 ll, .int .i64 wk, .func (.func 14) #[] #[.pointer (some ⟨b0, 0, none⟩), .pointer (some ⟨b1, 0, none⟩), .pointer (some ⟨b2, 0, none⟩), .pointer (some ⟨b3, 0, none⟩)], undef, undef, undef, undef], []⟩ : Act).put ((rtOps[4]?).bind (·.dst)) (.slice (some ⟨lb, 0, none⟩) ll ll)) [.inRegion rtOps [5, 6, 7, 8, 9], .code .ret]) (b₀.at a₀ (.inRegion ops₀ (i₀ :: rest₀) :: k₀) :: cs)) W := by
  subst hB
  simp only [rtOps, Tryd.f5]
  refine walks_callv rfl rfl (by k_ne) rfl rfl (fun W1 hr => ⟨12, #[], rfl, ⟨_, Tryd.func12, by kernel_rfl, rfl⟩, ?_⟩) (Post := fun O' v W' => ∃ s e, v = .tuple #[s, e] ∧ RtMade Sh A wl Wt seed cycle ll Lv s e S R O' W' ∧ Rely (fun _ => False) Sh W0 W') fun O' v W' hq => ?_
  · have hr1 := hr0.trans hr.less
    have HW := H.keep fun b hb => hr1.keep b (H.lt hb) (.inr (hS b hb))
    have hst : Steady Sh (LvSince W0.heap.size A wl Wt seed cycle Lv) := fun i s e Z W W1 h r => ⟨h.1.steady r, h.2⟩
    have hA1 := hA.rely hst hr
    have C := bakers_call (main := true) (Stop := Ends Tryd.prog Sh Post) HW (fun b q => H.lt (H.shared.2 b q).1) hS (fun b q => q.elim (hA1.lt b) fun z => Nat.lt_of_lt_of_le (lt b z) hr1.size) (by omega) hA1
    replace C := C.mono (Post' := fun O' v W' => ∃ s e, v = .tuple #[s, e] ∧ RtMade Sh A wl Wt seed cycle ll Lv s e S R O' W' ∧ Rely (fun _ => False) Sh W0 W') fun O' v W' h => by
      obtain ⟨s, e, bl, rfl, q1, q2, q3, q4⟩ := h
      exact ⟨s, e, rfl, ⟨bl, q1, q2, q4⟩, hr1.trans q3.less⟩
    clear HW hst hA1 hA h H
    go_simp
  · obtain ⟨s, e, rfl, hF0⟩ := hq
    have hF := hF0
    have step : ∀ {W1 W2}, RtMade Sh A wl Wt seed cycle ll Lv s e S R O' W1 ∧ Rely (fun _ => False) Sh W0 W1 → Rely O' Sh W1 W2 → RtMade Sh A wl Wt seed cycle ll Lv s e S R O' W2 ∧ Rely (fun _ => False) Sh W0 W2 := fun h r => ⟨h.1.rely hS r, h.2.trans r.less⟩
    clear hF0
    walk_nrm
    refine walks_goes rfl (fun W1 hr => ?_)
    replace hF := step hF hr
    clear hr
    refine goes_oper_k rfl rfl (by k_ne) (fun K' hK => ?_)
    go_simp
    refine hK _ _ ⟨_, guar_none (fun e he => by have hm := mem_listed he; simp [go_sem, *] at hm), ?_⟩
    clear hK K'
    refine walks_goes rfl (fun W1 hr => ?_)
    replace hF := step hF hr
    clear hr
    refine goes_oper_k rfl rfl (by k_ne) (fun K' hK => ?_)
    go_simp
    refine hK _ _ ⟨_, guar_none (fun e he => by have hm := mem_listed he; simp [go_sem, *] at hm), ?_⟩
    clear hK K'
    refine walks_goes rfl (fun W1 hr => ?_)
    replace hF := step hF hr
    clear hr
    refine goes_oper_k rfl rfl (by k_ne) (fun K' hK => ?_)
    go_simp
    refine hK _ _ ⟨_, guar_none (fun e he => by have hm := mem_listed he; simp [go_sem, *] at hm), ?_⟩
    clear hK K'
    refine walks_goes rfl (fun W1 hr => ?_)
    replace hF := step hF hr
    clear hr
    refine goes_oper_k rfl rfl (by k_ne) (fun K' hK => ?_)
    go_simp
    refine hK _ _ ⟨_, guar_none (fun e he => by have hm := mem_listed he; simp [go_sem, *] at hm), ?_⟩
    clear hK K'
    refine Walks.idle rfl (fun _ => stepG_region_end) ?_
    refine Walks.idle rfl (fun _ => stepG_ret') ?_
    refine walks_goes rfl (fun W1 hr => ?_)
    replace hF := step hF hr
    clear hr
    refine goes_leave2 rfl rfl Tryd.func5 rfl ⟨_, Guar.refl _ _ _, ?_⟩
    exact (h _ _ _ W1 hF.1 hF.2).to (by simp)
set_option maxRecDepth 100000 in
theorem rights_all (H : House W0 S R A) (hS : ∀ b, S.elem b = true → Sh b) (hX : ∀ b ∈ X, O b ∧ Bare W0 ⟨b, 0, none⟩) (lt : ∀ b, O b ∨ Sh b → b < W0.heap.size) (hs : seed < W64) (hwk : 1 ≤ wk ∧ wk ≤ 16) (hll : ll ≤ 100) (hn : wl ≤ 9223372036854775807)
    (sa : SliceIn (X ++ S) wp) (sl : SliceIn (X ++ S) lp) (hI : IntsAre W0 wp wl Wt) (hJ : IntsAre W0 lp ll Lv)
    (h : ∀ O' s e W, RtMade Sh A wl Wt seed cycle ll Lv s e S R O' W → Rely (fun _ => False) Sh W0 W → Walks Tryd.prog true Sh (Ends Tryd.prog Sh Post) O' (G (b₀.at (a₀.put ((ops₀[i₀]?).bind (·.dst)) (.tuple #[s, e])) (.inRegion ops₀ rest₀ :: k₀)) cs) W) :
    Walks Tryd.prog true Sh (Ends Tryd.prog Sh Post) O (G ((base 5).at ⟨#[.slice wp wl wc, .int .u64 seed, .int .i64 cycle, .slice lp ll lc, .int .i64 wk] ++ Array.replicate (Tryd.f5.ntmps - 5) undef, []⟩ [.code (Tryd.f5.body.getD .skip)]) (b₀.at a₀ (.inRegion ops₀ (i₀ :: rest₀) :: k₀) :: cs)) W0 := by
  refine rights_in hwk hll lt fun b0 b1 b2 b3 O' W hK => ?_
  have HX := H.add (l := X) fun b hb => .inl (hX b hb).2
  have own : ∀ b, (X ++ S).elem b = true → O b ∨ Sh b := fun b hb => (elem_app.1 hb).imp (fun z => (hX b z).1) (hS b)
  have kp : ∀ b, (X ++ S).elem b = true → W.heap[b]? = W0.heap[b]? := fun b hb => hK.r.keep b (lt b (own b hb)) (own b hb)
  have H1 := HX.keep kp
  have m0 := hK.at_ _ (.tail _ (.tail _ (.tail _ (.head _))))
  have m1 := hK.at_ _ (.tail _ (.tail _ (.head _)))
  have m2 := hK.at_ _ (.tail _ (.head _))
  have m3 := hK.at_ _ (.head _)
  have H2 := H1.add (l := [b0, b1, b2, b3]) fun b hb => by
    simp only [List.mem_cons, List.not_mem_nil, or_false] at hb
    rcases hb with rfl | rfl | rfl | rfl
    · exact .inl ⟨_, _, m0⟩
    · exact .inl ⟨_, _, m1⟩
    · exact .inl ⟨_, _, m2⟩
    · exact .inl ⟨_, _, m3⟩
  have L : LvIn W ([b0, b1, b2, b3] ++ (X ++ S)) R b0 b1 b2 b3 wp lp wl wc ll lc seed Wt Lv cycle :=
    { i0 := ⟨by simp, HX.fresh (hK.new _ (.tail _ (.tail _ (.tail _ (.head _)))))⟩
      i1 := ⟨by simp, HX.fresh (hK.new _ (.tail _ (.tail _ (.head _))))⟩
      i2 := ⟨by simp, HX.fresh (hK.new _ (.tail _ (.head _)))⟩
      i3 := ⟨by simp, HX.fresh (hK.new _ (.head _))⟩
      c0 := (hK.cell (.tail _ (.tail _ (.tail _ (.head _))))).1
      c1 := (hK.cell (.tail _ (.tail _ (.head _)))).1
      c2 := (hK.cell (.tail _ (.head _))).1
      c3 := (hK.cell (.head _)).1
      sa := fun x e => elem_app.2 (.inr (sa x e))
      sl := fun x e => elem_app.2 (.inr (sl x e))
      hI := are_keep sa kp hK.r.size hI
      hJ := are_keep sl kp hK.r.size hJ }
  have O_of : ∀ {b o}, (b, o) ∈ [(b3, Obj.cells #[.slice lp ll lc] 22 (0, 0)), (b2, .cells #[.int .i64 cycle] 3 (0, 0)), (b1, .cells #[.int .u64 seed] 23 (0, 0)), (b0, .cells #[.slice wp wl wc] 22 (0, 0))] → O' b := fun h => (hK.own _).2 (.inr ⟨_, h⟩)
  have lt' : ∀ b, O' b ∨ Sh b → b < W.heap.size := fun b q => by
    rcases q with q | q
    · rcases (hK.own b).1 q with z | ⟨o, z⟩
      · exact Nat.lt_of_lt_of_le (lt b (.inl z)) hK.r.size
      · exact hK.size z
    · exact Nat.lt_of_lt_of_le (lt b (.inr q)) hK.r.size
  unfold rtCall
  refine of_all (M := ll) (wk := wk) (A := LvSince W0.heap.size A wl Wt seed cycle Lv) (by omega) (by omega) lt' (fun i s e Z W W1 h r => ⟨h.1.steady r, h.2⟩) (fun i s e Z W h => h.1.one) ⟨_, Tryd.func14, by kernel_rfl, rfl⟩ (side_answers hK.r.size H2 L (fun b hb => ?_) hs hn (by omega)) fun O1 lb W2 hin k1 k2 k3 k4 k5 => ?_
  · rcases elem_app.1 hb with q | q
    · right
      simp only [List.mem_cons, List.not_mem_nil, or_false] at q
      rcases q with rfl | rfl | rfl | rfl
      · exact O_of (.tail _ (.tail _ (.tail _ (.head _))))
      · exact O_of (.tail _ (.tail _ (.head _)))
      · exact O_of (.tail _ (.head _))
      · exact O_of (.head _)
    · exact (own b q).elim (fun z => .inr ((hK.own b).2 (.inl z))) .inl
  · exact rights_tail H hS rfl hll (hK.r.less.trans ⟨k5, fun b _ q => k1 b (q.elim (fun z => z.elim) id), k2, k3, k4⟩) (fun b q => lt b (.inr q)) hin h
end all
end Go.Proofs.YtmbfdhekplnoaaaDoor

namespace Go.Proofs.YtmbfdhekplnoaaaDoor
open Go Go.Conc

def SL (Fn : FnR) (ρ : Brel) : List Value → List Value → Prop
  | [], [] => True
  | x :: xs, y :: ys => VR Fn ρ x y ∧ SL Fn ρ xs ys
  | _, _ => False
theorem SL.at {Fn : FnR} {ρ : Brel} : ∀ {xs ys : List Value}, SL Fn ρ xs ys → xs.length = ys.length ∧ ∀ (i : Nat) (x y : Value), xs[i]? = some x → ys[i]? = some y → VR Fn ρ x y
  | [], [], _ => ⟨rfl, fun i x y h _ => by simp at h⟩
  | x :: xs, y :: ys, h => by
    obtain ⟨l, k⟩ := SL.at h.2
    refine ⟨by simp [l], fun i a b ha hb => ?_⟩
    cases i with
    | zero => simp at ha hb; subst ha hb; exact h.1
    | succ i => exact k i a b (by simpa using ha) (by simpa using hb)
theorem SL.vrs {Fn : FnR} {ρ : Brel} {xs ys : List Value} (h : SL Fn ρ xs ys) : VRs Fn ρ xs.toArray ys.toArray := ⟨by simpa using h.at.1, fun i x y hx hy => h.at.2 i x y (by simpa using hx) (by simpa using hy)⟩
theorem SL.undefs {Fn : FnR} {ρ : Brel} : ∀ n, SL Fn ρ (List.replicate n undef) (List.replicate n undef)
  | 0 => trivial
  | n + 1 => ⟨VR.undef, SL.undefs n⟩
theorem fr_mid {R S : List Nat} {f : Nat} {fn : Func} (hf : Tryd.prog.funcs[f]? = some fn) {c : Code} (hc : okCodeB Tryd.prog (kA ++ kX) kGl (iaFunc fn) c = true) (hres : resB (iaFunc fn) fn = true) {t t' : List Value} (h : SL (kin.Fn R) (IdS fun i => S.elem i = true) t t') :
    ∀ C : Ctx, C.P = kin.P → C.Fn = kin.Fn R → C.IA = iaP kin.P → FR C kin.Gl (IdS fun i => S.elem i = true) ((base f).at ⟨t.toArray, []⟩ [.code c]) ((base f).at ⟨t'.toArray, []⟩ [.code c]) := by
  intro C hP hF hI
  have hP : C.P = Tryd.prog := hP
  have e : C.IA f = (iaFunc fn).elem := by rw [hI]; unfold iaP; rw [show kin.P.funcs[f]? = some fn from hf]
  refine ⟨f, t.toArray, t'.toArray, [.code c], .run, rfl, rfl, ⟨fn, by rw [hP]; exact hf, by rw [e]; exact res_of hres⟩, VPs.of (by rw [hF]; exact h.vrs), fun i hi => ?_, .inl rfl⟩
  rw [List.mem_singleton.1 hi]
  show okCode C kin.Gl (C.IA f) c
  rw [e]
  exact okCode_of (F := kA ++ kX) (gl := kGl) (fun f hf => by rw [hF]; exact hf) c (by rw [hP]; exact hc)
theorem wp_to {P : Program} {fn : Func} {c : Code} {a : Act} {w : World} {Q Q' : Ending → World → Prop} (h : c.wp P (bodyPost P fn Q) a w) (hq : ∀ e w, Q e w → Q' e w) : c.wp P (bodyPost P fn Q') a w := by
  refine Code.wp_mono (fun e a w q => ?_) h
  cases e with
  | normal => exact ⟨q.1, q.2.imp fun v z => ⟨z.1, hq _ _ z.2⟩⟩
  | ret => exact ⟨q.1, q.2.imp fun v z => ⟨z.1, hq _ _ z.2⟩⟩
  | panic ch => exact ⟨q.1, hq _ _ q.2⟩
  | exit _ => exact q.elim
  | goto _ => exact q.elim
  | outgrown => exact hq _ _ q
section own
variable {W : World} {S R : List Nat} {A : Nat → Addr} {a : Option Addr} {n cap : Nat} {Wt : Nat → Int} {Sh O : Nat → Prop} {Stop : (Nat → Prop) → Goroutine → World → Prop} {main : Bool}
theorem own_call (H : House W S R A) (hS : ∀ b, S.elem b = true → Sh b ∨ O b) (hO : ∀ b, O b ∨ Sh b → b < W.heap.size) (sa : SliceIn S a) (hI : IntsAre W a n Wt) (hn : n ≤ 1000) :
    CallW Tryd.prog main Sh Stop 6 #[.slice a n cap] O W fun O' v W' =>
      ∃ a' cap', v = .slice a' n cap' ∧ IntsAre W' a' n Wt ∧ (∀ x, a' = some x → O' x.block ∧ Bare W' x) ∧ (∀ b, O b → O' b) ∧ Rely O Sh W W' ∧ ∀ b, O' b ∨ Sh b → b < W'.heap.size := by
  refine Kin.callW (k := kin) (W := W) (S := S) (R := R) H.gl H.shared H.size (f := 6) (show (kA ++ kX).elem 6 = true from by decide)
    (vrs1 (vr_slice sa _ _))
    (Q := fun _ e w' => (n = 0 ∧ e = .returned (.slice none 0 0)) ∨ ∃ m cap', e = .returned (.slice (some ⟨m, 0, none⟩) n cap') ∧ W.heap.size ≤ m ∧ 0 < n ∧ Ints w' m 0 n Wt) (fun F hF T => ?_) (fun F e w q => ?_) hS hO (fun N v W' hN hr hc => ?_)
  · rcases Nat.eq_zero_or_pos n with rfl | h0
    · refine (ownInts_none a cap _).mono ?_
      rintro e w' ⟨rfl, _⟩
      exact .inl ⟨rfl, rfl⟩
    · rcases hI with z | ⟨b, off, rfl, hb, hI⟩
      · omega
      · refine (ownInts_at b off n cap Wt _ (ints_lone (F := F) (Fn := kin.Fn R) (T := T) (sa _ rfl) hI) h0 hn).mono ?_
        rintro e w' ⟨m, cap', rfl, _, hi, _, hm⟩
        have hm : (loneW (kin.Fn R) W S F).heap.size ≤ m := hm
        rw [lone_size] at hm
        exact .inr ⟨m, cap', rfl, hm, h0, hi⟩
  · rcases q with ⟨_, rfl⟩ | ⟨m, cap', rfl, _⟩ <;> exact ⟨_, rfl⟩
  · obtain ⟨F, hF, u, w, ρ, hc⟩ := hc
    have lt : ∀ b, (N b ∨ O b) ∨ Sh b → b < W'.heap.size := fun b z => by
      rcases z with (z | z) | z
      · exact (hN b z).2
      · exact Nat.lt_of_lt_of_le (hO b (.inl z)) hr.size
      · exact Nat.lt_of_lt_of_le (hO b (.inr z)) hr.size
    obtain ⟨T, D, q⟩ := hc.q
    rcases q with ⟨rfl, q⟩ | ⟨m, cap', q, hm, h0, hi⟩
    · cases q
      have e : v = .slice none 0 0 := by have := hc.v; cases this; rfl
      exact ⟨none, 0, e, .inl rfl, fun x e => (by cases e), fun b z => .inr z, hr, lt⟩
    · cases q
      obtain ⟨b, rb, rfl⟩ := vr_sl hc.v
      have hi' : Ints W' b 0 n Wt := fun i hj => by
        obtain ⟨v, c0, k0⟩ := came_cell hc.obj rb (hi i hj)
        have k0 : v = .int .i64 (Wt i) := by cases k0; rfl
        subst k0
        exact c0
      refine ⟨some ⟨b, 0, none⟩, cap', rfl, .inr ⟨b, 0, rfl, cell_lt (hi' 0 h0), hi'⟩, fun x e => ?_, fun b z => .inr z, hr, lt⟩
      cases e
      exact ⟨.inl (hc.new H hm rb), hc.lone H (fun b z => (hN b z).1) hm rb (hi' 0 h0)⟩
end own
end Go.Proofs.YtmbfdhekplnoaaaDoor

namespace Go.Proofs.YtmbfdhekplnoaaaDoor
open Go.RowKit

set_option maxRecDepth 100000 in
set_option maxHeartbeats 1000000 in
theorem same_ints (b c n ca cc : Nat) (Z : Nat → Int) (w : World) (hn : n ≤ 1000) (hb : Ints w b 0 n Z) (hc : Ints w c 0 n Z) :
    Calls Tryd.prog 10 #[.slice (some ⟨b, 0, none⟩) n ca, .slice (some ⟨c, 0, none⟩) n cc] w fun e w' => e = .returned (.bool true) ∧ ∃ m, w' = w.drewN m := by
  have t0 : ((n : Int) != (n : Int)) = false := by simp
  go_enter Tryd.func10, Tryd.ntmps10
  go_wp2
  go_loopw [5] (fun i w' => ∃ k : Nat, k ≤ n ∧ i = .int .i64 k ∧ ∃ m, w' = w.drewN m) (fun i _ => n - (intOf i).toNat)
  case atStart => exact ⟨0, Nat.zero_le _, rfl, 0, rfl⟩
  case round =>
    obtain ⟨k, hk, rfl, m, rfl⟩ := hrel
    by_cases hlt : k < n
    · have c0 := hb k hlt
      have c1 := hc k hlt
      rw [Nat.zero_add] at c0 c1
      have t1 : (Z k != Z k) = false := by simp
      clear hb hc
      go_wp2
      go_quiet (fail)
      go_wp2
      go_roundw
      case rel => exact ⟨k + 1, by omega, by go_num, _, rfl⟩
      case measure => simp [intOf]; omega
    · clear hb hc
      go_wp2
      go_ret
      exact ⟨rfl, _, rfl⟩
def mid3 : Nat → Int := fun i => if i = 1 then 3 else 0
theorem mid3_weights : Weights 3 mid3 := ⟨by omega, by omega, fun k _ => by unfold mid3; split <;> omega⟩
theorem mid3_ints (w : World) (t : TypeId) : Ints (w.alloc (.cells #[.int .i64 0, .int .i64 3, .int .i64 0] t)) w.heap.size 0 3 mid3 := fun i hi => by
  have : i = 0 ∨ i = 1 ∨ i = 2 := by omega
  rcases this with rfl | rfl | rfl <;> exact cell_new _ _ _ _ _ _ rfl rfl
theorem mid3_turn {seed : Nat} {c l r k : Int} (h : Turn 3 mid3 seed c l r k) : k = 1 := by
  obtain ⟨j, rfl, hj, hw⟩ := h.heavy mid3_weights (by decide)
  have : j = 0 ∨ j = 1 ∨ j = 2 := by omega
  rcases this with rfl | rfl | rfl
  · exact absurd rfl hw
  · rfl
  · exact absurd rfl hw
theorem ones8_ints (w : World) (t : TypeId) : Ints (w.alloc (.cells #[.int .i64 1, .int .i64 1, .int .i64 1, .int .i64 1, .int .i64 1, .int .i64 1, .int .i64 1, .int .i64 1] t)) w.heap.size 0 8 (fun _ => 1) := fun i hi => by
  have : i = 0 ∨ i = 1 ∨ i = 2 ∨ i = 3 ∨ i = 4 ∨ i = 5 ∨ i = 6 ∨ i = 7 := by omega
  rcases this with rfl | rfl | rfl | rfl | rfl | rfl | rfl | rfl <;> exact cell_new _ _ _ _ _ _ rfl rfl
noncomputable def restA : Code := match Tryd.f4.body with
  | some (.seq _ (.seq _ t)) => t
  | _ => .skip
set_option maxRecDepth 100000 in
set_option maxHeartbeats 2000000 in
theorem rest_of (m oc mj cj : Nat) (K : Nat → Int) (hK : Hid (∀ r : Nat, r < 8 → K r = 1)) (w : World) (h1 : w.cell? ⟨m, 0, none⟩ = some (.slice (some ⟨mj, 0, none⟩) 8 cj)) (h2 : mj < w.heap.size) (h3 : Hid (Ints w mj 0 8 K)) (u3 u4 u5 u6 u7 u8 : Value) :
    restA.wp Tryd.prog (bodyPost Tryd.prog Tryd.f4 fun e w' => e = .returned (.bool true) ∧ Below w.heap.size w w') ⟨#[.bool false, .slice (some ⟨m, 0, none⟩) 1 oc, .nilIface, u3, u4, u5, u6, u7, u8, undef, undef, undef, undef, undef, undef, undef, undef, undef, undef, undef, undef, undef, undef], []⟩ w := by
  have B1 : Below w.heap.size w (w.alloc (.cells #[.int .i64 1, .int .i64 1, .int .i64 1, .int .i64 1, .int .i64 1, .int .i64 1, .int .i64 1, .int .i64 1] 3)) := (Below.refl _ _).alloc (Nat.le_refl _) _
  have k3 : Ints w mj 0 8 (fun _ => 1) := fun i hi => by rw [h3.out i hi, hK.out i hi]
  have S := same_ints mj w.heap.size 8 cj 8 (fun _ => 1) _ (by omega) (k3.below B1 h2) (ones8_ints w 3)
  clear hK h3 k3
  unfold restA
  simp only [Tryd.f4]
  go_wp2_with fail
  refine S.mono ?_
  rintro e w3 ⟨rfl, m3, hw⟩
  have B6 : Below w.heap.size w w3 := by rw [hw]; exact below_drewN B1 m3
  clear hw B1
  go_wp2_with fail
  go_ret
  exact ⟨rfl, B6⟩
end Go.Proofs.YtmbfdhekplnoaaaDoor
