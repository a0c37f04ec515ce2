/-
  The law PoolFair's loop: its body taken out of the program, and what holds at each round's start.
-/
import Derived.Test.YtlhffdmhbplpjaaDoorWas
import Derived.Deep.QuietTactic
import Derived.BigQuiet
namespace Go.Proofs.YtlhffdmhbplpjaaDoor
open Go.RowKit

/-- the first loop's body -/
def firstLoop : Code → Option Code
  | .loop c => some c
  | .seq a b => match firstLoop a with
    | some c => some c
    | none => firstLoop b
  | .block _ c => firstLoop c
  | .scope c => firstLoop c
  | .cond _ a b => match firstLoop a with
    | some c => some c
    | none => firstLoop b
  | _ => none
noncomputable def fairBody : Code := ((Tryd.f8.body.bind firstLoop).getD .skip)

theorem kind_is {K : ByteArray} {a b : List UInt8} (h : (K.toList == a) = true) (hn : (a == b) = false) : (K.toList == b) = false := by rw [eq_of_beq h]; exact hn

/-- at a round's start -/
def FairRel (w : World) (len pb pm : Nat) (i : Value) (w' : World) : Prop := ∃ (k : Nat) (x : St), k ≤ len ∧ i = .int .i64 k ∧ x.Ok ∧ PoolAt w' pb pm x (4 * k) ∧ Below w.heap.size w w'
set_option maxRecDepth 1000000 in
def FairI (w : World) (len pb pm : Nat) (sl c1 c3 c15 c16 c17 c18 c19 c20 c21 c22 c23 c24 c25 c26 : Value) (a : Act) (w' : World) : Prop :=
  ∃ u2 u5 u6 u7 u8 u9 u10 u11 u12 u13 u14 u27 u28 u29 u30 u31 u32 u33 u34 u35 u36 u37 u38 u39 u40 u41 u42 u43 u44 u45 u46 u47 u48 u49 u50 u51 u52 u53 u54 u55 u56 u57 u58 u59 u60 u61 u62 u63 u64 u65 u66 u67 u68 u69 u70 u71 u72 u73 u74 u75 u76 u77 u78 u79 u80 u81 u82 u83 u84 u85 u86 u87 u88 u89 u90 u91 u92 u93 u94 u95 u96 u97 u98 u99 u100 u101 u102 u103 u104 u105 u106 u107 u108 u109 u110 u111 u112 u113 u114 u115 u116 u117 u118 u119 u120 u121 u122 u123 u124 u125 u126 u127 u128 u129 u130 u131 u132 u133 u134 u135 u136 u137 u138 u139 u140 u141 u142 u143 u144 u145 u146 u147 u148 u149 u150 u151 u152 u153 u154 u155 u156 u157 u158 u159 u160 u161 u162 u163 u164 u165 u166 u167 u168 u169 u170 u171 u172 u173 u174 u175 u176 u177 u178 u179 u180 u181 u182 u183 u184 u185 u186 u187 u188 u189 u190 u191 u192 u193 u194 u195 u196 u197 : Value, FairRel w len pb pm u5 w' ∧ a = ⟨#[sl, c1, u2, c3, .pointer (some ⟨pb, 0, none⟩), u5, u6, u7, u8, u9, u10, u11, u12, u13, u14, c15, c16, c17, c18, c19, c20, c21, c22, c23, c24, c25, c26, u27, u28, u29, u30, u31, u32, u33, u34, u35, u36, u37, u38, u39, u40, u41, u42, u43, u44, u45, u46, u47, u48, u49, u50, u51, u52, u53, u54, u55, u56, u57, u58, u59, u60, u61, u62, u63, u64, u65, u66, u67, u68, u69, u70, u71, u72, u73, u74, u75, u76, u77, u78, u79, u80, u81, u82, u83, u84, u85, u86, u87, u88, u89, u90, u91, u92, u93, u94, u95, u96, u97, u98, u99, u100, u101, u102, u103, u104, u105, u106, u107, u108, u109, u110, u111, u112, u113, u114, u115, u116, u117, u118, u119, u120, u121, u122, u123, u124, u125, u126, u127, u128, u129, u130, u131, u132, u133, u134, u135, u136, u137, u138, u139, u140, u141, u142, u143, u144, u145, u146, u147, u148, u149, u150, u151, u152, u153, u154, u155, u156, u157, u158, u159, u160, u161, u162, u163, u164, u165, u166, u167, u168, u169, u170, u171, u172, u173, u174, u175, u176, u177, u178, u179, u180, u181, u182, u183, u184, u185, u186, u187, u188, u189, u190, u191, u192, u193, u194, u195, u196, u197], []⟩
def FairMu (len : Nat) (a : Act) (_ : World) : Nat := len - (intOf (a.tmps.getD 5 undef)).toNat
end Go.Proofs.YtlhffdmhbplpjaaDoor
