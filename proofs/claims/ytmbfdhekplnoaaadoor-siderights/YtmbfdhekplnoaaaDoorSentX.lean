/-
  The law SideRights in company: its call of side.Rights, and what is behind it.
  What the listed variables hold: package api's sentinels, each a pointer of its own; package errors' handle of the type error.
-/
import Derived.Test.YtmbfdhekplnoaaaDoorSideLawX
import Derived.Test.YtmbfdhekplnoaaaDoorU64InX
import Derived.Test.YtmbfdhekplnoaaaDoorSentV
namespace Go.Proofs.YtmbfdhekplnoaaaDoor
open Go Go.Conc Go.RowKit Go.Conc.Lib Go.ConcR.Gen
open Go.ConcR (KK WgAt stA smA)

section law
variable {S R : List Nat} {A : Nat → Addr} {O Sh : Nat → Prop} {a la a1 a2 : Option Addr} {n cap ll lc seed c1 c2 : Nat} {c wk : Int} {Wt Lv : Nat → Int} {W0 W W1 : World} {s e : Value}
def LwMade (Sh : Nat → Prop) (A : Nat → Addr) (n : Nat) (Wt : Nat → Int) (seed : Nat) (c : Int) (ll : Nat) (Lv : Nat → Int) (wk : Int) (s e : Value) (S R : List Nat) (O : Nat → Prop) (W : World) : Prop :=
  (∀ b, O b ∨ Sh b → b < W.heap.size) ∧ ((¬ (1 ≤ wk ∧ wk ≤ 16) ∧ e = sent (A 2) ∧ s = .slice none 0 0) ∨ ((1 ≤ wk ∧ wk ≤ 16) ∧ 100 < ll ∧ e = sent (A 1) ∧ s = .slice none 0 0) ∨ ((1 ≤ wk ∧ wk ≤ 16) ∧ ll ≤ 100 ∧ RtMade Sh A n Wt seed c ll Lv s e S R O W))
theorem LwMade.rely (hS : ∀ b, S.elem b = true → Sh b) (h : LwMade Sh A n Wt seed c ll Lv wk s e S R O W) (r : Rely O Sh W W1) : LwMade Sh A n Wt seed c ll Lv wk s e S R O W1 :=
  ⟨fun b q => Nat.lt_of_lt_of_le (h.1 b q) r.size, h.2.imp id (.imp id fun z => ⟨z.1, z.2.1, z.2.2.rely hS r⟩)⟩
theorem LwMade.lone (h : LwMade Sh A n Wt seed c ll Lv wk s e S R O W) (H : House W S R A) : ∃ bl : List Nat, (∀ b ∈ bl, (O b ∧ Bare W ⟨b, 0, none⟩) ∨ S.elem b = true) ∧
    (∀ (F : Nat → Bool) (T : Nat → Question → Nat), RightsEnd (World.tp (loneW (kin.Fn R) W (bl ++ S) F) T 0) A n Wt seed c ll Lv wk s e) ∧ VR (kin.Fn R) (IdS fun i => (bl ++ S).elem i = true) s s ∧ VR (kin.Fn R) (IdS fun i => (bl ++ S).elem i = true) e e := by
  rcases h.2 with ⟨h1, rfl, rfl⟩ | ⟨h1, h2, rfl, rfl⟩ | ⟨h1, h2, bl, g1, g2, g3⟩
  · exact ⟨[], fun b hb => (by cases hb), fun F T => .inl ⟨h1, rfl, rfl⟩, .nilSlice _ _, H.sent (by omega)⟩
  · exact ⟨[], fun b hb => (by cases hb), fun F T => .inr (.inl ⟨h1, h2, rfl, rfl⟩), .nilSlice _ _, H.sent (by omega)⟩
  · have H2 := H.add (l := bl) fun b hb => (g1 b hb).imp And.right id
    have g2' : AllMade A n Wt seed c ll Lv s e (bl ++ S) R W := ⟨g2.1, fun x k q e => ⟨elem_app.2 (.inl (by simpa using (g2.2.1 x k q e).1)), fun j hj y k' q' z => elem_app.2 (.inl (by simpa using (g2.2.1 x k q e).2 j hj y k' q' z))⟩, fun m e => ⟨elem_app.2 (.inl (by simpa using (g2.2.2 m e).1)), (g2.2.2 m e).2⟩⟩
    exact ⟨bl, g1, fun F T => .inr (.inr ⟨h1, h2, (g2'.lone H2).1⟩), (g2'.lone (F := fun _ => false) (T := fun _ _ => 0) H2).2⟩
variable {X : List Nat} {Post : Value → World → Prop} {cs : List Frame} {b₀ : Frame} {a₀ : Act} {ops₀ : Array Oper} {i₀ : Nat} {rest₀ : List Nat} {k₀ : List Item}
theorem law_rights (H : House W0 S R A) (hS : ∀ b, S.elem b = true → Sh b) (hX : ∀ b ∈ X, O b ∧ Bare W0 ⟨b, 0, none⟩) (lt : ∀ b, O b ∨ Sh b → b < W0.heap.size) (hs : seed < W64) (hn : n ≤ 100)
    (sa : SliceIn (X ++ S) a1) (sl : SliceIn (X ++ S) a2) (hI : IntsAre W0 a1 n Wt) (hJ : IntsAre W0 a2 ll Lv)
    (h : ∀ O' s e W, LwMade Sh A n Wt seed c ll Lv wk s e S R O' W → Rely (fun _ => False) Sh W0 W → Walks Tryd.prog true Sh (Ends Tryd.prog Sh Post) O' (G (b₀.at (a₀.put ((ops₀[i₀]?).bind (·.dst)) (.tuple #[s, e])) (.inRegion ops₀ rest₀ :: k₀)) cs) W) :
    Walks Tryd.prog true Sh (Ends Tryd.prog Sh Post) O (G ((base 5).at ⟨#[.slice a1 n c1, .int .u64 seed, .int .i64 c, .slice a2 ll c2, .int .i64 wk] ++ Array.replicate (Tryd.f5.ntmps - 5) undef, []⟩ [.code (Tryd.f5.body.getD .skip)]) (b₀.at a₀ (.inRegion ops₀ (i₀ :: rest₀) :: k₀) :: cs)) W0 := by
  have lt2 : ∀ {L O' W}, Stock O Sh W0 L O' W → ∀ b, O' b ∨ Sh b → b < W.heap.size := fun {L O' W} hK b q => by
    rcases q with q | q
    · rcases (hK.own b).1 q with z | ⟨o, z⟩
      · exact Nat.lt_of_lt_of_le (lt b (.inl z)) hK.r.size
      · exact hK.size z
    · exact Nat.lt_of_lt_of_le (lt b (.inr q)) hK.r.size
  have er : ∀ {g i : Nat}, kGl.elem g = true → i < 10 → W0.cell? ⟨g, 0, none⟩ = some (sent (A i)) → ErrAt' Sh O W0 g (sent (A i)) := fun {g i} hg hi hc => ⟨hS g (H.gl g hg), hc, sent_ne _, sent_ev _, sent_gr _, sent_ge _⟩
  by_cases w1 : wk < 1
  · exact rights_few w1 (er (by decide) (by omega) H.laid.v2) lt fun L O' W hK => h _ _ _ _ ⟨lt2 hK, .inl ⟨by omega, rfl, rfl⟩⟩ hK.r.less
  · by_cases w2 : 16 < wk
    · exact rights_many w2 (er (by decide) (by omega) H.laid.v2) lt fun L O' W hK => h _ _ _ _ ⟨lt2 hK, .inl ⟨by omega, rfl, rfl⟩⟩ hK.r.less
    · by_cases w3 : 100 < ll
      · exact rights_long ⟨by omega, by omega⟩ w3 (er (by decide) (by omega) H.laid.v1) lt fun L O' W hK => h _ _ _ _ ⟨lt2 hK, .inr (.inl ⟨by omega, w3, rfl, rfl⟩)⟩ hK.r.less
      · obtain ⟨k, rfl⟩ := Int.eq_ofNat_of_zero_le (show 0 ≤ wk by omega)
        exact rights_all (wk := k) H hS hX lt hs (by omega) (by omega) (by omega) sa sl hI hJ fun O' s e W hm hr => h _ _ _ _ ⟨let ⟨_, _, _, z⟩ := hm; z, .inr (.inr ⟨by omega, by omega, hm⟩)⟩ hr
set_option maxRecDepth 100000 in
set_option maxHeartbeats 4000000 in
theorem law_d (H : House W0 S R A) (hS : ∀ b, S.elem b = true → b < W0.heap.size) (hs : seed < W64) (hn : n ≤ 100) (hll : ll ≤ 110) (sa : SliceIn S a) (sl : SliceIn S la) (hI : IntsAre W0 a n Wt) (hJ : IntsAre W0 la ll Lv)
    (hm : LwMade (fun b => b < W0.heap.size) A n Wt seed c ll Lv wk s e S R O W) (hr0 : Rely (fun _ => False) (fun b => b < W0.heap.size) W0 W) :
    Walks Tryd.prog true (fun b => b < W0.heap.size) (LwEnds W0) O (G ((base 3).at ((⟨#[.slice a n cap, .int .u64 seed, .int .i64 c, .slice la ll lc, .int .i64 wk, undef, undef, undef, undef, undef, .bool false, .bool true, undef, undef, undef, undef, undef, undef, undef, undef, undef, undef, .bool true, .bool true, .bool false, .bool false, .slice a n cap, .int .i64 n, .bool false, .bool false, .bool false, .slice la ll lc, .int .i64 ll, .bool false, .bool false, undef, undef, .slice a n cap, .slice a1 n c1, .int .u64 seed, .int .i64 c, .slice la ll lc, .slice a2 ll c2, .int .i64 wk, undef, undef, undef, undef, undef, undef, undef, undef, undef, undef, undef, undef, undef, undef, undef, undef, undef, undef, undef, undef, undef, undef, undef, undef, undef, undef, undef, undef, undef, undef, undef, undef, undef, undef, undef, undef, undef, undef, undef, undef, undef, undef, undef, undef, undef, undef, undef, undef, undef, undef, undef, undef, undef, undef, undef, undef, undef, undef, undef, undef, undef, undef, undef, undef, undef, undef, undef, undef, undef, undef, undef, undef, undef, undef, undef, undef, undef, undef, undef, undef, undef, undef, undef, undef, undef, undef, undef, undef, undef, undef, undef, undef, undef], []⟩ : Act).put ((lwOps4[7]?).bind (·.dst)) (.tuple #[s, e])) [.inRegion lwOps4 [8, 9, 10, 11, 12], .code tailC]) []) W := by
  have hF : LwMade (fun b => b < W0.heap.size) A n Wt seed c ll Lv wk s e S R O W ∧ Rely (fun _ => False) (fun b => b < W0.heap.size) W0 W := ⟨hm, hr0⟩
  have step : ∀ {W1 W2}, LwMade (fun b => b < W0.heap.size) A n Wt seed c ll Lv wk s e S R O W1 ∧ Rely (fun _ => False) (fun b => b < W0.heap.size) W0 W1 → Rely O (fun b => b < W0.heap.size) W1 W2 → LwMade (fun b => b < W0.heap.size) A n Wt seed c ll Lv wk s e S R O W2 ∧ Rely (fun _ => False) (fun b => b < W0.heap.size) W0 W2 := fun h r => ⟨h.1.rely hS r, h.2.trans r.less⟩
  clear hm hr0
  simp only [lwOps4, Tryd.f3]
  walk_nrm
  refine walks_goes rfl (fun W1 hr => ?_)
  replace hF := step hF hr
  clear hr
  refine goes_oper_k rfl rfl (by k_ne) (fun K' hK => ?_)
  go_simp
  refine hK _ _ ⟨_, guar_none (fun e he => by have hm := mem_listed he; simp [go_sem, *] at hm), ?_⟩
  clear hK K'
  refine walks_goes rfl (fun W1 hr => ?_)
  replace hF := step hF hr
  clear hr
  refine goes_oper_k rfl rfl (by k_ne) (fun K' hK => ?_)
  go_simp
  refine hK _ _ ⟨_, guar_none (fun e he => by have hm := mem_listed he; simp [go_sem, *] at hm), ?_⟩
  clear hK K'
  refine walks_goes rfl (fun W1 hr => ?_)
  replace hF := step hF hr
  clear hr
  refine goes_oper_k rfl rfl (by k_ne) (fun K' hK => ?_)
  go_simp
  refine hK _ _ ⟨_, guar_none (fun e he => by have hm := mem_listed he; simp [go_sem, *] at hm), ?_⟩
  clear hK K'
  refine walks_goes rfl (fun W1 hr => ?_)
  replace hF := step hF hr
  clear hr
  refine goes_oper_k rfl rfl (by k_ne) (fun K' hK => ?_)
  go_simp
  refine hK _ _ ⟨_, guar_none (fun e he => by have hm := mem_listed he; simp [go_sem, *] at hm), ?_⟩
  clear hK K'
  refine walks_goes rfl (fun W1 hr => ?_)
  replace hF := step hF hr
  clear hr
  refine goes_oper_k rfl rfl (by k_ne) (fun K' hK => ?_)
  go_simp
  refine hK _ _ ⟨_, guar_none (fun e he => by have hm := mem_listed he; simp [go_sem, *] at hm), ?_⟩
  clear hK K'
  refine Walks.idle rfl (fun _ => stepG_region_end) ?_
  obtain ⟨hm, hr0⟩ := hF
  have kp : ∀ b, S.elem b = true → W1.heap[b]? = W0.heap[b]? := fun b hb => hr0.keep b (hS b hb) (.inr (hS b hb))
  have HW := H.keep kp
  obtain ⟨bl, h1, h2, vs, ve⟩ := hm.lone HW
  have H2 := HW.add (l := bl) fun b hb => (h1 b hb).imp And.right id
  have sa2 : SliceIn (bl ++ S) a := fun x e => elem_app.2 (.inr (sa x e))
  have sl2 : SliceIn (bl ++ S) la := fun x e => elem_app.2 (.inr (sl x e))
  have va := vr_slice (R := R) sa2 n cap
  have vl := vr_slice (R := R) sl2 ll lc
  obtain ⟨u38, p38, q38⟩ := junk_of (kin.Fn R) (IdS fun i => (bl ++ S).elem i = true) (.slice a1 n c1)
  obtain ⟨u42, p42, q42⟩ := junk_of (kin.Fn R) (IdS fun i => (bl ++ S).elem i = true) (.slice a2 ll c2)
  refine Kin.lastW (k := kin) (W := W1) (S := bl ++ S) (R := R) H2.gl H2.shared H2.size (a := (base 3).at ⟨#[.slice a n cap, .int .u64 seed, .int .i64 c, .slice la ll lc, .int .i64 wk, undef, undef, undef, undef, undef, .bool false, .bool true, s, e, undef, undef, undef, undef, undef, undef, undef, undef, .bool true, .bool true, .bool false, .bool false, .slice a n cap, .int .i64 n, .bool false, .bool false, .bool false, .slice la ll lc, .int .i64 ll, .bool false, .bool false, undef, undef, .slice a n cap, u38, .int .u64 seed, .int .i64 c, .slice la ll lc, u42, .int .i64 wk, undef, s, e, undef, undef, undef, undef, undef, undef, undef, undef, undef, undef, undef, undef, undef, undef, undef, undef, undef, undef, undef, undef, undef, undef, undef, undef, undef, undef, undef, undef, undef, undef, undef, undef, undef, undef, undef, undef, undef, undef, undef, undef, undef, undef, undef, undef, undef, undef, undef, undef, undef, undef, undef, undef, undef, undef, undef, undef, undef, undef, undef, undef, undef, undef, undef, undef, undef, undef, undef, undef, undef, undef, undef, undef, undef, undef, undef, undef, undef, undef, undef, undef, undef, undef, undef, undef, undef, undef, undef, undef, undef, undef], []⟩ [.code tailC])
    (fr_mid Tryd.func3 tailC_ok tailC_res ?_) (fr_mid Tryd.func3 tailC_ok tailC_res ?_) Tryd.func3 lw_res lw_init (Q := fun _ e _ => e = .returned (.bool true)) (fun F hF => ?_) (fun b hb => ?_) hm.1 (fun N v W' hN hr hc => ?_)
  · exact ⟨va, .int _ _, .int _ _, vl, .int _ _, VR.undef, VR.undef, VR.undef, VR.undef, VR.undef, .bool _, .bool _, vs, ve, VR.undef, VR.undef, VR.undef, VR.undef, VR.undef, VR.undef, VR.undef, VR.undef, .bool _, .bool _, .bool _, .bool _, va, .int _ _, .bool _, .bool _, .bool _, vl, .int _ _, .bool _, .bool _, VR.undef, .junk rfl, va, p38, .int _ _, .int _ _, vl, p42, .int _ _, .junk rfl, vs, ve, SL.undefs 90⟩
  · exact ⟨va, .int _ _, .int _ _, vl, .int _ _, VR.undef, VR.undef, VR.undef, VR.undef, VR.undef, .bool _, .bool _, vs, ve, VR.undef, VR.undef, VR.undef, VR.undef, VR.undef, VR.undef, VR.undef, VR.undef, .bool _, .bool _, .bool _, .bool _, va, .int _ _, .bool _, .bool _, .bool _, vl, .int _ _, .bool _, .bool _, VR.undef, VR.undef, va, q38, .int _ _, .int _ _, vl, q42, .int _ _, VR.undef, vs, ve, SL.undefs 90⟩
  · exact Returns.of_wp Tryd.func3 (fun T => wp_to (tail_of a la n cap ll lc seed hs hn hll Wt Lv c wk s e A _ (H2.lone hF T) (are_lone sa2 (are_keep sa kp hr0.size hI)) (are_lone sl2 (are_keep sl kp hr0.size hJ)) (h2 F T) _ _ _ _ _ _ _ _ _ _ _ _ _ _ _ _ _ _ _ _ _ _ _ _ _) fun e w q => q.1) fun e w q => ⟨_, q⟩
  · rcases elem_app.1 hb with q | q
    · exact (h1 b q).elim (fun z => .inr z.1) fun z => .inl (hS b z)
    · exact .inl (hS b q)
  · obtain ⟨F, hF, u, w, ρ, hc⟩ := hc
    obtain ⟨T, D, q⟩ := hc.q
    cases q
    have e : v = .bool true := by have := hc.v; cases this; rfl
    subst e
    exact LwPost.of (hr0.trans hr.less)

def Copy (O : Nat → Prop) (a : Option Addr) (n : Nat) (Wt : Nat → Int) (W : World) : Prop := IntsAre W a n Wt ∧ ∀ x, a = some x → O x.block ∧ Bare W x
theorem Copy.rely (h : Copy O a n Wt W) (r : Rely O Sh W W1) (lt : ∀ b, O b ∨ Sh b → b < W.heap.size) : Copy O a n Wt W1 := by
  have kp : ∀ x, a = some x → W1.heap[x.block]? = W.heap[x.block]? := fun x e => r.keep _ (lt _ (.inl (h.2 x e).1)) (.inl (h.2 x e).1)
  refine ⟨?_, fun x e => ⟨(h.2 x e).1, bare_keep (h.2 x e).2 (kp x e)⟩⟩
  rcases h.1 with z | ⟨b, off, rfl, hb, hI⟩
  · exact .inl z
  · exact .inr ⟨b, off, rfl, Nat.lt_of_lt_of_le hb r.size, fun i hi => cell_keep (a := ⟨b, off + i, none⟩) (kp ⟨b, off, none⟩ rfl) (hI i hi)⟩
def Cop1 (W0 : World) (n : Nat) (Wt : Nat → Int) (O : Nat → Prop) (v : Value) (W : World) : Prop := ∃ a cap, v = .slice a n cap ∧ Mid W0 O W ∧ Copy O a n Wt W
def Cop2 (W0 : World) (n : Nat) (Wt : Nat → Int) (a1 : Option Addr) (ll : Nat) (Lv : Nat → Int) (O : Nat → Prop) (v : Value) (W : World) : Prop := ∃ a cap, v = .slice a ll cap ∧ Mid W0 O W ∧ Copy O a1 n Wt W ∧ Copy O a ll Lv W
theorem Copy.own {O' : Nat → Prop} (h : Copy O a n Wt W) (hO : ∀ b, O b → O' b) : Copy O' a n Wt W := ⟨h.1, fun x e => ⟨hO _ (h.2 x e).1, (h.2 x e).2⟩⟩
set_option maxRecDepth 100000 in
set_option maxHeartbeats 4000000 in
theorem law_c (H : House W0 S R A) (hS : ∀ b, S.elem b = true → b < W0.heap.size) (hs : seed < W64) (hn : n ≤ 100) (hll : ll ≤ 110) (sa : SliceIn S a) (sl : SliceIn S la) (hI : IntsAre W0 a n Wt) (hJ : IntsAre W0 la ll Lv) (hF : Mid W0 O W) :
    Walks Tryd.prog true (fun b => b < W0.heap.size) (LwEnds W0) O (G ((base 3).at ⟨#[.slice a n cap, .int .u64 seed, .int .i64 c, .slice la ll lc, .int .i64 wk, undef, undef, undef, undef, undef, .bool false, .bool true, undef, undef, undef, undef, undef, undef, undef, undef, undef, undef, .bool true, .bool true, .bool false, .bool false, .slice a n cap, .int .i64 n, .bool false, .bool false, .bool false, .slice la ll lc, .int .i64 ll, .bool false, .bool false, undef, undef, undef, undef, undef, undef, undef, undef, undef, undef, undef, undef, undef, undef, undef, undef, undef, undef, undef, undef, undef, undef, undef, undef, undef, undef, undef, undef, undef, undef, undef, undef, undef, undef, undef, undef, undef, undef, undef, undef, undef, undef, undef, undef, undef, undef, undef, undef, undef, undef, undef, undef, undef, undef, undef, undef, undef, undef, undef, undef, undef, undef, undef, undef, undef, undef, undef, undef, undef, undef, undef, undef, undef, undef, undef, undef, undef, undef, undef, undef, undef, undef, undef, undef, undef, undef, undef, undef, undef, undef, undef, undef, undef, undef, undef, undef, undef, undef, undef, undef, undef, undef], []⟩ [.inRegion lwOps4 [0, 1, 2, 3, 4, 5, 6, 7, 8, 9, 10, 11, 12], .code tailC]) []) W := by
  have step : ∀ {O W1 W2}, Mid W0 O W1 → Rely O (fun b => b < W0.heap.size) W1 W2 → Mid W0 O W2 := fun h r => h.rely r
  have kp : ∀ {O W}, Mid W0 O W → ∀ b, S.elem b = true → W.heap[b]? = W0.heap[b]? := fun h b hb => h.1.keep b (hS b hb) (.inr (hS b hb))
  have O0 : ∀ {O W a n Wt cap}, Mid W0 O W → SliceIn S a → IntsAre W0 a n Wt → n ≤ 110 → CallW Tryd.prog true (fun b => b < W0.heap.size) (LwEnds W0) 6 #[.slice a n cap] O W fun O' v W' => ∃ a' cap', v = .slice a' n cap' ∧ Copy O' a' n Wt W' ∧ (∀ b, O b → O' b) ∧ Rely O (fun b => b < W0.heap.size) W W' ∧ Mid W0 O' W' := fun {O W a n Wt cap} hF sa hI hn => by
    refine (own_call (H.keep (kp hF)) (fun b hb => .inl (hS b hb)) hF.2 sa (are_keep sa (kp hF) hF.1.size hI) (by omega)).mono ?_
    rintro O' v W' ⟨a', cap', e, h1, h2, h3, h4, h5⟩
    exact ⟨a', cap', e, ⟨h1, h2⟩, h3, h4, hF.1.trans h4.less, h5⟩
  simp only [lwOps4, Tryd.f3]
  refine walks_goes rfl (fun W1 hr => ?_)
  replace hF := step hF hr
  clear hr
  refine goes_oper_k rfl rfl (by k_ne) (fun K' hK => ?_)
  go_simp
  refine hK _ _ ⟨_, guar_none (fun e he => by have hm := mem_listed he; simp [go_sem, *] at hm), ?_⟩
  clear hK K'
  refine walks_callv rfl rfl (by k_ne) rfl rfl (fun W2 hr => ⟨6, #[], rfl, ⟨_, Tryd.func6, by kernel_rfl, rfl⟩, ?_⟩) (Post := Cop1 W0 n Wt) fun O1 v W2 hq => ?_
  · have C := O0 (cap := cap) (hF.rely hr) sa hI (by omega)
    replace C := C.mono (Post' := Cop1 W0 n Wt) fun O' v W' h => by
      obtain ⟨a', cap', e, h1, _, _, h4⟩ := h
      exact ⟨a', cap', e, h4, h1⟩
    clear O0 kp step
    go_simp
  clear hF step
  obtain ⟨a1, c1, rfl, hF⟩ := hq
  have step : ∀ {O W1 W2}, Mid W0 O W1 ∧ Copy O a1 n Wt W1 → Rely O (fun b => b < W0.heap.size) W1 W2 → Mid W0 O W2 ∧ Copy O a1 n Wt W2 := fun h r => ⟨h.1.rely r, h.2.rely r h.1.2⟩
  walk_nrm
  refine walks_goes rfl (fun W1 hr => ?_)
  replace hF := step hF hr
  clear hr
  refine goes_oper_k rfl rfl (by k_ne) (fun K' hK => ?_)
  go_simp
  refine hK _ _ ⟨_, guar_none (fun e he => by have hm := mem_listed he; simp [go_sem, *] at hm), ?_⟩
  clear hK K'
  refine walks_goes rfl (fun W1 hr => ?_)
  replace hF := step hF hr
  clear hr
  refine goes_oper_k rfl rfl (by k_ne) (fun K' hK => ?_)
  go_simp
  refine hK _ _ ⟨_, guar_none (fun e he => by have hm := mem_listed he; simp [go_sem, *] at hm), ?_⟩
  clear hK K'
  refine walks_goes rfl (fun W1 hr => ?_)
  replace hF := step hF hr
  clear hr
  refine goes_oper_k rfl rfl (by k_ne) (fun K' hK => ?_)
  go_simp
  refine hK _ _ ⟨_, guar_none (fun e he => by have hm := mem_listed he; simp [go_sem, *] at hm), ?_⟩
  clear hK K'
  refine walks_callv rfl rfl (by k_ne) rfl rfl (fun W2 hr => ⟨6, #[], rfl, ⟨_, Tryd.func6, by kernel_rfl, rfl⟩, ?_⟩) (Post := Cop2 W0 n Wt a1 ll Lv) fun O2 v W2 hq => ?_
  · have hF2 := step hF hr
    have C := O0 (cap := lc) hF2.1 sl hJ (by omega)
    replace C := C.mono (Post' := Cop2 W0 n Wt a1 ll Lv) fun O' v W' h => by
      obtain ⟨a', cap', e, h1, h2, h3, h4⟩ := h
      exact ⟨a', cap', e, h4, (hF2.2.rely h3 hF2.1.2).own h2, h1⟩
    clear O0 kp step hF2
    go_simp
  clear hF step
  obtain ⟨a2, c2, rfl, hF⟩ := hq
  have step : ∀ {O W1 W2}, Mid W0 O W1 ∧ Copy O a1 n Wt W1 ∧ Copy O a2 ll Lv W1 → Rely O (fun b => b < W0.heap.size) W1 W2 → Mid W0 O W2 ∧ Copy O a1 n Wt W2 ∧ Copy O a2 ll Lv W2 := fun h r => ⟨h.1.rely r, h.2.1.rely r h.1.2, h.2.2.rely r h.1.2⟩
  walk_nrm
  refine walks_goes rfl (fun W1 hr => ?_)
  replace hF := step hF hr
  clear hr
  refine goes_oper_k rfl rfl (by k_ne) (fun K' hK => ?_)
  go_simp
  refine hK _ _ ⟨_, guar_none (fun e he => by have hm := mem_listed he; simp [go_sem, *] at hm), ?_⟩
  clear hK K'
  refine walks_goes rfl (fun W1 hr => ?_)
  replace hF := step hF hr
  clear hr
  refine goes_call rfl rfl (by k_ne) rfl Tryd.func5 (by kernel_rfl) rfl ⟨_, Guar.refl _ _ _, ?_⟩
  obtain ⟨hF, hc1, hc2⟩ := hF
  let bk : Option Addr → List Nat := fun a => match a with | some x => [x.block] | none => []
  refine (law_rights (a1 := a1) (a2 := a2) (n := n) (ll := ll) (seed := seed) (c := c) (wk := wk) (c1 := c1) (c2 := c2) (X := bk a1 ++ bk a2) (b₀ := base 3) (a₀ := ⟨#[.slice a n cap, .int .u64 seed, .int .i64 c, .slice la ll lc, .int .i64 wk, undef, undef, undef, undef, undef, .bool false, .bool true, undef, undef, undef, undef, undef, undef, undef, undef, undef, undef, .bool true, .bool true, .bool false, .bool false, .slice a n cap, .int .i64 n, .bool false, .bool false, .bool false, .slice la ll lc, .int .i64 ll, .bool false, .bool false, undef, undef, .slice a n cap, .slice a1 n c1, .int .u64 seed, .int .i64 c, .slice la ll lc, .slice a2 ll c2, .int .i64 wk, undef, undef, undef, undef, undef, undef, undef, undef, undef, undef, undef, undef, undef, undef, undef, undef, undef, undef, undef, undef, undef, undef, undef, undef, undef, undef, undef, undef, undef, undef, undef, undef, undef, undef, undef, undef, undef, undef, undef, undef, undef, undef, undef, undef, undef, undef, undef, undef, undef, undef, undef, undef, undef, undef, undef, undef, undef, undef, undef, undef, undef, undef, undef, undef, undef, undef, undef, undef, undef, undef, undef, undef, undef, undef, undef, undef, undef, undef, undef, undef, undef, undef, undef, undef, undef, undef, undef, undef, undef, undef, undef, undef, undef], []⟩) (ops₀ := lwOps4) (i₀ := 7) (rest₀ := [8, 9, 10, 11, 12]) (k₀ := [.code tailC]) (cs := []) (H.keep (kp hF)) hS (fun b hb => ?_) hF.2 hs hn (fun x e => ?_) (fun x e => ?_) hc1.1 hc2.1 fun O' s e W' hm hr => law_d H hS hs hn hll sa sl hI hJ hm (hF.1.trans hr)).to (by simp [lwOps4, Tryd.f3, Tryd.f5, Act.eval])
  · rcases List.mem_append.1 hb with q | q
    · cases a1 with
      | none => cases q
      | some x => rw [List.mem_singleton.1 q]; exact hc1.2 x rfl
    · cases a2 with
      | none => cases q
      | some x => rw [List.mem_singleton.1 q]; exact hc2.2 x rfl
  · subst e; exact elem_app.2 (.inl (List.mem_append.2 (.inl (.head _))))
  · subst e; exact elem_app.2 (.inl (List.mem_append.2 (.inr (.head _))))
theorem law_all (H : House W0 S R A) (hS : ∀ b, S.elem b = true → b < W0.heap.size) (hs : seed < W64) (hm : n ≤ 9223372036854775807) (hl : ll ≤ 9223372036854775807) (sa : SliceIn S a) (sl : SliceIn S la) (hI : IntsAre W0 a n Wt) (hJ : IntsAre W0 la ll Lv) :
    Walks Tryd.prog true (fun b => b < W0.heap.size) (LwEnds W0) (fun _ => False) (G ((base 3).at ⟨#[.slice a n cap, .int .u64 seed, .int .i64 c, .slice la ll lc, .int .i64 wk] ++ Array.replicate (Tryd.f3.ntmps - 5) undef, []⟩ [.code (Tryd.f3.body.getD .skip)]) []) W0 := by
  refine law_a H hS fun O W hF => ?_
  by_cases h1 : 100 < n
  · exact law_b1 h1 hm hF
  · by_cases h2 : 110 < ll
    · exact law_b2 (by omega) h2 hl hF
    · exact law_b3 (by omega) (by omega) hF fun W hF => law_c H hS hs (by omega) (by omega) sa sl hI hJ hF
end law
end Go.Proofs.YtmbfdhekplnoaaaDoor

namespace Go.Proofs.YtmbfdhekplnoaaaDoor
open Go.ChangeShapes Go.WideShapes Go.ChangeAt Go.RowKit

theorem Tryd.own : ownKnob Tryd.prog.godebug = none := by kernel_rfl
theorem Tryd.star : "*" ++ "errors.errorString" = "*errors.errorString" := by decide
theorem Tryd.rowES (u : TypeId) (h : Tryd.prog.typeName? 3 u = some "*errors.errorString") : u = 165 :=
  typeName_ptr_named (nm := "errors.errorString") (by rw [Tryd.star]; kernel_rfl) (by kernel_rfl) (by decide) u (by rw [Tryd.star]; exact h)
theorem Tryd.cellsES : Tryd.prog.cellsOf 185 = 1 := by kernel_rfl
theorem Tryd.cellsStr : Tryd.prog.cellsOf 9 = 1 := by kernel_rfl

abbrev errD (text : List UInt8) : DataW Unit := .iface "*errors.errorString" (.ptr (.agg [.lit (.string text)]))

def Sents (W : World) : List (String × List UInt8) → List Addr → List MemPlace → Prop
  | [], [], ps => ps = []
  | (n, _) :: r, a :: xs, ps => ∃ g q, Tryd.prog.globalNamed n = some g ∧ W.cell? ⟨g, 0, none⟩ = some (sent a) ∧ (∃ s, W.cell? a = some (.string s)) ∧ (∃ c t, W.heap[a.block]? = some (.cells c t (0, 0))) ∧ Sents W r xs q ∧ ps = MemPlace.row ⟨g, 0, none⟩ 1 ++ MemPlace.row a 1 ++ q
  | _, _, _ => False

set_option maxRecDepth 100000 in
theorem sents_of {W : World} : ∀ (L : List (String × List UInt8)) (ps : List MemPlace),
    (∀ n d, (n, d) ∈ L → ∃ g, Tryd.prog.globalNamed n = some g ∧ (Tryd.prog.globals[g]?).map (·.type) = some 27) →
    DataW.LaidVars Tryd.prog W (L.map fun x => (x.1, errD x.2)) ps →
    (∀ b off, MemPlace.cell b off ∈ ps → (∃ c t, W.heap[b]? = some (.cells c t (0, 0))) ∧ ∀ u v, W.cell? ⟨b, off, none⟩ = some (.iface u v) → Value.okWide Tryd.prog W .any 0 u v) →
    ∃ xs, Sents W L xs ps
  | [], ps, _, h, _ => ⟨[], h⟩
  | (n, d) :: r, ps, hg, h, hrows => by
    obtain ⟨g0, t0, cs0, f0, p0, q0, hg0, ht0, hv0, hd0, hr0, rfl⟩ := h
    obtain ⟨g, hg1, ht1⟩ := hg n d (List.mem_cons_self ..)
    obtain rfl := Option.some.inj (hg1.symm.trans hg0)
    obtain rfl := Option.some.inj (ht1.symm.trans ht0)
    obtain ⟨l0⟩ := cs0
    have ok0 : ∀ u v, l0 = [.iface u v] → Value.okWide Tryd.prog W .any 0 u v := fun u v e => by
      subst e
      exact (hrows g 0 (by simp [MemPlace.row])).2 u v (by simpa using World.var?_cell hg0 hv0 0)
    obtain ⟨a, s, rfl, hc, hs, hz, rfl⟩ := errorString_of_trod Tryd.underlying27 Tryd.rowES Tryd.underlying165 Tryd.underlying185 rfl rfl Tryd.underlying9 Tryd.cellsES Tryd.cellsStr hd0 ok0
    obtain ⟨c, t, hb⟩ := (hrows a.block a.off (by simp [MemPlace.row])).1
    obtain ⟨xs, hS⟩ := sents_of r q0 (fun n d h => hg n d (List.mem_cons_of_mem _ h)) hr0 (fun b off hm => hrows b off (List.mem_append_right _ hm))
    exact ⟨a :: xs, g, q0, hg0, by simpa using World.var?_cell hg0 hv0 0, ⟨s, hc⟩, ⟨c, t, hb⟩, hS, rfl⟩

theorem sents_mem {W : World} : ∀ (L : List (String × List UInt8)) (xs : List Addr) (ps : List MemPlace), Sents W L xs ps → ∀ a ∈ xs, MemPlace.cell a.block a.off ∈ ps
  | [], [], _, _, _, h => by cases h
  | [], _ :: _, _, h, _, _ => h.elim
  | _ :: _, [], _, h, _, _ => h.elim
  | (n, _) :: r, a :: xs, ps, h, b, hb => by
    obtain ⟨g, q, _, _, _, _, hr, rfl⟩ := h
    rcases List.mem_cons.1 hb with rfl | hb
    · simp [MemPlace.row]
    · exact List.mem_append_right _ (sents_mem r xs q hr b hb)
theorem sents_nodup {W : World} : ∀ (L : List (String × List UInt8)) (xs : List Addr) (ps : List MemPlace), Sents W L xs ps → ps.Nodup → xs.Nodup
  | [], [], _, _, _ => List.nodup_nil
  | [], _ :: _, _, h, _ => h.elim
  | _ :: _, [], _, h, _ => h.elim
  | (n, _) :: r, a :: xs, ps, h, hn => by
    obtain ⟨g, q, _, _, _, _, hr, rfl⟩ := h
    rw [List.nodup_append] at hn
    obtain ⟨_, hq, hd⟩ := hn
    refine List.nodup_cons.2 ⟨fun hm => ?_, sents_nodup r xs q hr hq⟩
    exact hd _ (by simp [MemPlace.row]) _ (sents_mem r xs q hr a hm) rfl

theorem Tryd.gBound : Tryd.prog.globalNamed "bakehouse/api.ErrBound" = some 1 := by kernel_rfl
theorem Tryd.gBoundT : (Tryd.prog.globals[1]?).map (·.type) = some 27 := by kernel_rfl
end Go.Proofs.YtmbfdhekplnoaaaDoor
