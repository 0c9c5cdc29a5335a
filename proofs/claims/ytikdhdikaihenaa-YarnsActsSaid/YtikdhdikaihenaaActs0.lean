import Derived.Test.YtikdhdikaihenaaSwitch
import Derived.Test.YtikdhdikaihenaaLawReduce
import Derived.Deep.Cut
import Derived.Deep.CutRange
import Derived.Deep.CutBlock
namespace Go.Proofs.Ytikdhdikaihenaa
open Go.RowKit Go.Sort

def psi26 (pl : Int) (ct : Int) (p1 : Int) (c1 : Int) (ev : Int) (side : Int) (inn : Bool) (nw : Bool) (i1 : Bool) (n1 : Bool) (pend : List Ps) (bo : Option Addr) (ba : Nat) (oa : Nat) (n : Nat) (cap : Nat) (k : Nat) (KN : Nat) : Nat → Value → World → Prop
  | 0, v, _ => v = .agg #[.bool inn, .int .i64 pl, .int .i64 ct, .bool nw, .slice bo (List.length pend) (List.length pend)]
  | 1, v, _ => v = .slice (some ⟨ba, oa, none⟩) n cap
  | 2, v, _ => v = .int .i64 (k : Int)
  | 3, v, _ => v = .pointer (some ⟨ba, oa + k * 4, none⟩)
  | 4, v, _ => v = .pointer (some ⟨ba, oa + k * 4 + 2, none⟩)
  | 5, v, _ => v = .int .u8 side
  | 6, v, _ => v = .tuple #[.agg #[.bool i1, .int .i64 p1, .int .i64 c1, .bool n1, .slice none 0 0], .int .i64 ev]
  | 7, v, _ => v = .tuple #[.agg #[.bool i1, .int .i64 p1, .int .i64 c1, .bool n1, .slice none 0 0], .int .i64 ev]
  | 8, v, _ => v = .agg #[.bool i1, .int .i64 p1, .int .i64 c1, .bool n1, .slice none 0 0]
  | 9, v, _ => v = .int .i64 ev
  | 10, _, w => Five w KN (.bool i1) (.int .i64 p1) (.int .i64 c1) (.bool n1) (.slice none 0 0)
  | 11, v, _ => v = .int .i64 ev
  | _, _, _ => True
theorem psi26_below (pl : Int) (ct : Int) (p1 : Int) (c1 : Int) (ev : Int) (side : Int) (inn : Bool) (nw : Bool) (i1 : Bool) (n1 : Bool) (pend : List Ps) (bo : Option Addr) (ba : Nat) (oa : Nat) (n : Nat) (cap : Nat) (k : Nat) (KN : Nat) (i : Nat) (v : Value) (w w' : World) (h : psi26 pl ct p1 c1 ev side inn nw i1 n1 pend bo ba oa n cap k KN i v w) (hb : Below w.heap.size w w') : psi26 pl ct p1 c1 ev side inn nw i1 n1 pend bo ba oa n cap k KN i v w' := by
  match i, h with
  | 0, h => exact h
  | 1, h => exact h
  | 2, h => exact h
  | 3, h => exact h
  | 4, h => exact h
  | 5, h => exact h
  | 6, h => exact h
  | 7, h => exact h
  | 8, h => exact h
  | 9, h => exact h
  | 10, h => exact Five.below h hb (five_lt h)
  | 11, h => exact h
  | i + 12, _ => exact trivial
theorem psi26_other (pl : Int) (ct : Int) (p1 : Int) (c1 : Int) (ev : Int) (side : Int) (inn : Bool) (nw : Bool) (i1 : Bool) (n1 : Bool) (pend : List Ps) (bo : Option Addr) (ba : Nat) (oa : Nat) (n : Nat) (cap : Nat) (k : Nat) (KN : Nat) (i : Nat) (v : Value) (w w' : World) (hne : i ≠ 10) (_ : ∀ ao ps, Lie w ao ps → (∀ b o, ao = some ⟨b, o, none⟩ → b ≠ KN) → Lie w' ao ps) (h : psi26 pl ct p1 c1 ev side inn nw i1 n1 pend bo ba oa n cap k KN i v w) : psi26 pl ct p1 c1 ev side inn nw i1 n1 pend bo ba oa n cap k KN i v w' := by
  match i, h with
  | 0, h => exact h
  | 1, h => exact h
  | 2, h => exact h
  | 3, h => exact h
  | 4, h => exact h
  | 5, h => exact h
  | 6, h => exact h
  | 7, h => exact h
  | 8, h => exact h
  | 9, h => exact h
  | 10, _ => exact absurd rfl hne
  | 11, h => exact h
  | i + 12, _ => exact trivial
set_option maxRecDepth 1000000 in
set_option maxHeartbeats 4000000 in
theorem acts_case0 (ba oa n cap k KY : Nat) (inn : Bool) (pl ct : Int) (nw : Bool) (pend : List Ps) (po : Option Addr) (cp : Nat) (bo : Option Addr) (wr V : World) (what place side : Int) (ao2 : Option Addr) (n2 cap2 : Nat) (xs : List Int) (u2 u13 u14 u23 u24 u32 u39 u40 u41 u42 u43 u44 u45 u46 u47 u48 u49 u50 u51 u52 u53 u54 u55 u56 u57 u58 u59 u60 u61 u62 u63 u64 u65 u66 u67 u68 u69 u70 u71 u72 u73 u74 u75 u76 u77 u78 u79 u80 u81 u82 u83 u84 u85 u86 u87 u88 u89 u90 u91 u92 u93 u94 u95 u96 u97 u98 u99 u100 u101 u102 u103 u104 u105 u106 u107 u108 u109 u110 u111 u112 u113 u114 u115 u116 u117 u118 u119 u120 u121 u122 u123 u124 u125 u126 u127 u128 u129 u130 u131 u132 u133 u134 u135 u136 u137 u138 u139 u140 u141 u142 u143 u144 u145 u146 u147 u148 u149 u150 u151 u152 u153 u154 u155 u156 u157 u158 u159 u160 u161 u162 u163 u164 u165 u166 u167 u168 u169 u170 u171 u172 u173 u174 u175 u176 u177 u178 u179 u180 u181 u182 u183 u184 u185 u186 u187 u188 u189 u190 u191 u192 u193 u194 u195 u196 u197 u198 u199 u200 u201 u202 u203 u204 u205 u206 u207 u208 u209 u210 u211 u212 u213 u214 u215 u216 u217 u218 u219 u220 u221 u222 u223 u224 u225 u226 u227 u228 u229 u230 : Value)
    (HS : Hid (StOk wr KY k inn pl ct nw pend po cp bo)) (HAT : Hid (ActAt wr ba (oa + k * 4) ⟨what, place, side, ao2, n2, cap2, xs⟩)) (HOK : Hid (AcOk wr ⟨what, place, side, ao2, n2, cap2, xs⟩)) (FN : Hid (Five V wr.heap.size (.bool false) (.int .i64 0) (.int .i64 0) (.bool false) (.slice none 0 0)))
    (hbV : Below wr.heap.size wr V) (hba : ba < wr.heap.size) (hKYr : KY < wr.heap.size) (hlt : k < n) (_ : n2 ≤ 10) (b0 : (0 : Int) ≤ (k : Int)) (b9 : (k : Int) < n) (_ : k ≤ 30) (hL : pend.length ≤ 300) (h4 : what.tmod 4 = 0)
    (Kp : Act → World → Prop) (Qx : Exit → Act → World → Prop)
    (hK : ∀ (s4 s5 s6 s7 s8 s10 s12 s13 s14 v19 v20 v21 v22 v23 v24 v25 v26 v27 v28 v29 v30 v31 v32 v33 v34 v35 v36 v37 v38 v39 v40 v41 v42 v43 v44 v45 v46 v47 v48 v49 v50 v51 v52 v53 v54 v55 v56 v57 v58 v59 v60 v61 v62 v63 v64 v65 v66 v67 v68 v69 v70 v71 v72 v73 v74 v75 v76 v77 v78 v79 v80 v81 v82 v83 v84 v85 v86 v87 v88 v89 v90 v91 v92 v93 v94 v95 v96 v97 v98 v99 v100 v101 v102 v103 v104 v105 v106 v107 v108 v109 v110 v111 v112 v113 v114 v115 v116 v117 v118 v119 v120 v121 v122 v123 v124 v125 v126 v127 v128 v129 v130 v131 v132 v133 v134 v135 v136 v137 v138 v139 v140 v141 v142 v143 v144 v145 v146 v147 v148 v149 v150 v151 v152 v153 v154 v155 v156 v157 v158 v159 v160 v161 v162 v163 v164 v165 v166 v167 v168 v169 v170 v171 v172 v173 v174 : Value) (wx : World), SwRel KY k wr inn pl ct nw pend s4 s5 s6 s7 s8 s10 s12 wx → Kp ⟨#[Value.slice (some { block := ba, off := oa }) n cap, undef, u2, Value.pointer (some { block := KY, off := 0 }), s4, s5, s6, s7, s8, Value.int IntKind.i64 k, s10, Value.pointer (some { block := wr.heap.size, off := 0 }), s12, s13, s14, Value.slice (some { block := ba, off := oa }) n cap, Value.int IntKind.i64 n, Value.bool false, undef, v19, v20, v21, v22, v23, v24, v25, v26, v27, v28, v29, v30, v31, v32, v33, v34, v35, v36, v37, v38, v39, v40, v41, v42, v43, v44, v45, v46, v47, v48, v49, v50, v51, v52, v53, v54, v55, v56, v57, v58, v59, v60, v61, v62, v63, v64, v65, v66, v67, v68, v69, v70, v71, v72, v73, v74, v75, v76, v77, v78, v79, v80, v81, v82, v83, v84, v85, v86, v87, v88, v89, v90, v91, v92, v93, v94, v95, v96, v97, v98, v99, v100, v101, v102, v103, v104, v105, v106, v107, v108, v109, v110, v111, v112, v113, v114, v115, v116, v117, v118, v119, v120, v121, v122, v123, v124, v125, v126, v127, v128, v129, v130, v131, v132, v133, v134, v135, v136, v137, v138, v139, v140, v141, v142, v143, v144, v145, v146, v147, v148, v149, v150, v151, v152, v153, v154, v155, v156, v157, v158, v159, v160, v161, v162, v163, v164, v165, v166, v167, v168, v169, v170, v171, v172, v173, v174, u175, u176, u177, u178, u179, u180, u181, u182, u183, u184, u185, u186, u187, u188, u189, u190, u191, u192, u193, u194, u195, u196, u197, u198, u199, u200, u201, u202, u203, u204, u205, u206, u207, u208, u209, u210, u211, u212, u213, u214, u215, u216, u217, u218, u219, u220, u221, u222, u223, u224, u225, u226, u227, u228, u229, u230, undef], []⟩ wx) :
    Code.wp Try.prog blk2 (Exit.then Kp Qx) ⟨#[Value.slice (some { block := ba, off := oa }) n cap, undef, u2, Value.pointer (some { block := KY, off := 0 }), Value.bool inn, Value.int IntKind.i64 pl, Value.int IntKind.i64 ct, Value.bool nw, Value.slice po pend.length cp, Value.int IntKind.i64 k, Value.int IntKind.i64 0, Value.pointer (some { block := wr.heap.size, off := 0 }), Value.int IntKind.i64 0, u13, u14, Value.slice (some { block := ba, off := oa }) n cap, Value.int IntKind.i64 n, Value.bool false, undef, Value.int IntKind.i64 k, Value.slice (some { block := ba, off := oa }) n cap, Value.int IntKind.i64 n, Value.bool true, u23, u24, Value.slice (some { block := ba, off := oa }) n cap, Value.int IntKind.i64 k, Value.pointer (some { block := ba, off := oa + k * 4 }), Value.pointer (some { block := ba, off := oa + k * 4 + 3 }), Value.slice ao2 n2 cap2, Value.int IntKind.i64 n2, Value.bool false, u32, Value.slice (some { block := ba, off := oa }) n cap, Value.int IntKind.i64 k, Value.pointer (some { block := ba, off := oa + k * 4 }), Value.pointer (some { block := ba, off := oa + k * 4 }), Value.int IntKind.u8 what, Value.int IntKind.u8 (what.tmod 4), u39, u40, u41, u42, u43, u44, u45, u46, u47, u48, u49, u50, u51, u52, u53, u54, u55, u56, u57, u58, u59, u60, u61, u62, u63, u64, u65, u66, u67, u68, u69, u70, u71, u72, u73, u74, u75, u76, u77, u78, u79, u80, u81, u82, u83, u84, u85, u86, u87, u88, u89, u90, u91, u92, u93, u94, u95, u96, u97, u98, u99, u100, u101, u102, u103, u104, u105, u106, u107, u108, u109, u110, u111, u112, u113, u114, u115, u116, u117, u118, u119, u120, u121, u122, u123, u124, u125, u126, u127, u128, u129, u130, u131, u132, u133, u134, u135, u136, u137, u138, u139, u140, u141, u142, u143, u144, u145, u146, u147, u148, u149, u150, u151, u152, u153, u154, u155, u156, u157, u158, u159, u160, u161, u162, u163, u164, u165, u166, u167, u168, u169, u170, u171, u172, u173, u174, u175, u176, u177, u178, u179, u180, u181, u182, u183, u184, u185, u186, u187, u188, u189, u190, u191, u192, u193, u194, u195, u196, u197, u198, u199, u200, u201, u202, u203, u204, u205, u206, u207, u208, u209, u210, u211, u212, u213, u214, u215, u216, u217, u218, u219, u220, u221, u222, u223, u224, u225, u226, u227, u228, u229, u230, undef], []⟩ V := by
  conv => arg 2; whnf
  rw [h4]
  obtain ⟨i1, p1, c1, n1, ev, he, hc⟩ := enter_gen inn pl ct nw bo pend pend.length pend.length side rfl (by omega) HOK.out.2.2.2.2.1 HS.out.vy
  have HE := Lib.hid he
  have HC := Lib.hid hc
  clear he hc
  go_wp2_with fail
  refine rgR [some 86, some 87, some 88, some 89, some 90, some 91, some 92, some 85, some 93, some 94, none, some 10] (psi26 pl ct p1 c1 ev side inn nw i1 n1 pend bo ba oa n cap k wr.heap.size) (invS wr.heap.size wr) (relS 10 wr.heap.size) (by kernel_rfl) (by kernel_rfl) (by kernel_rfl) (fun i j v w w' hji hI hp hr => by
    rcases hr with ⟨_, hb⟩ | ⟨rfl, v0, v1, v2, v3, v4, rfl⟩
    · exact psi26_below pl ct p1 c1 ev side inn nw i1 n1 pend bo ba oa n cap k wr.heap.size j v w w' hp hb
    · exact psi26_other pl ct p1 c1 ev side inn nw i1 n1 pend bo ba oa n cap k wr.heap.size j v w _ hji (fun ao ps h hne => lie_sets5 h hne _ _ _ _ _) hp) (invS_stab 10) (fun i o ho fa w1 hs hout hI hdep hold => ?_) ?_ ⟨hbV.drew, _, _, _, _, _, FN.out⟩
  · have hlt9 := (Array.getElem?_eq_some_iff.1 ho).1
    have F1 := HS.out.yarn.below hI.1 hKYr
    have T1 := HAT.out.below hI.1 hba
    have L1 := HS.out.lieY.below hI.1
    have t1 := T1.2.1
    have t2 := T1.2.2.1
    have t3 := T1.2.2.2
    simp only at t1 t2 t3
    match i, ho with
    | 0, ho =>
      obtain rfl := Option.some.inj ho
      refine .inl ⟨rfl, fun K hK => ?_⟩
      exact ld38 rfl ((hout 3 rfl).trans rfl) F1 (hK _ _ (.inl ⟨by decide, Below.refl _ _⟩) rfl)
    | 1, ho =>
      obtain rfl := Option.some.inj ho
      refine .inl ⟨rfl, fun K hK => ?_⟩
      exact st_move rfl ((hout 0 rfl).trans rfl) (hK _ _ (.inl ⟨by decide, Below.refl _ _⟩) rfl)
    | 2, ho =>
      obtain rfl := Option.some.inj ho
      refine .inl ⟨rfl, fun K hK => ?_⟩
      exact st_move rfl ((hout 9 rfl).trans rfl) (hK _ _ (.inl ⟨by decide, Below.refl _ _⟩) rfl)
    | 3, ho =>
      obtain rfl := Option.some.inj ho
      have q1 : fa.tmps.getD 87 undef = .slice (some ⟨ba, oa, none⟩) n cap := hdep ⟨1, .data⟩ (by simp) rfl _ rfl
      have q2 : fa.tmps.getD 88 undef = .int .i64 (k : Int) := hdep ⟨2, .data⟩ (by simp) rfl _ rfl
      refine .inl ⟨rfl, fun K hK => ?_⟩
      exact st_idx36 rfl q1 q2 hlt (hK _ _ (.inl ⟨by decide, Below.refl _ _⟩) rfl)
    | 4, ho =>
      obtain rfl := Option.some.inj ho
      have q3 : fa.tmps.getD 89 undef = .pointer (some ⟨ba, oa + k * 4, none⟩) := hdep ⟨3, .data⟩ (by simp) rfl _ rfl
      refine .inl ⟨rfl, fun K hK => ?_⟩
      exact fa40_2 rfl q3 (hK _ _ (.inl ⟨by decide, Below.refl _ _⟩) rfl)
    | 5, ho =>
      obtain rfl := Option.some.inj ho
      have q4 : fa.tmps.getD 90 undef = .pointer (some ⟨ba, oa + k * 4 + 2, none⟩) := hdep ⟨4, .data⟩ (by simp) rfl _ rfl
      refine .inl ⟨rfl, fun K hK => ?_⟩
      exact ld5 rfl q4 t2 (hK _ _ (.inl ⟨by decide, Below.refl _ _⟩) rfl)
    | 6, ho =>
      obtain rfl := Option.some.inj ho
      have q0 : fa.tmps.getD 86 undef = .agg #[.bool inn, .int .i64 pl, .int .i64 ct, .bool nw, .slice bo (List.length pend) (List.length pend)] := hdep ⟨0, .data⟩ (by simp) rfl _ rfl
      have q5 : fa.tmps.getD 91 undef = .int .u8 side := hdep ⟨5, .data⟩ (by simp) rfl _ rfl
      refine .inl ⟨rfl, fun K hK => ?_⟩
      exact step_calls rfl enter17 (vs := #[.agg #[.bool inn, .int .i64 pl, .int .i64 ct, .bool nw, .slice bo (List.length pend) (List.length pend)], .int .u8 side]) (vals2 q0 q5) ((HC.out _ L1).mono fun e w' hh => by
        obtain ⟨rfl, hb⟩ := hh
        exact ⟨_, rfl, hK _ _ (.inl ⟨by decide, hb⟩) rfl⟩)
    | 7, ho =>
      obtain rfl := Option.some.inj ho
      have q6 : fa.tmps.getD 92 undef = .tuple #[.agg #[.bool i1, .int .i64 p1, .int .i64 c1, .bool n1, .slice none 0 0], .int .i64 ev] := hdep ⟨6, .data⟩ (by simp) rfl _ rfl
      refine .inl ⟨rfl, fun K hK => ?_⟩
      exact st_move rfl q6 (hK _ _ (.inl ⟨by decide, Below.refl _ _⟩) rfl)
    | 8, ho =>
      obtain rfl := Option.some.inj ho
      have q7 : fa.tmps.getD 85 undef = .tuple #[.agg #[.bool i1, .int .i64 p1, .int .i64 c1, .bool n1, .slice none 0 0], .int .i64 ev] := hdep ⟨7, .data⟩ (by simp) rfl _ rfl
      refine .inl ⟨rfl, fun K hK => ?_⟩
      exact step_extract rfl q7 rfl (hK _ _ (.inl ⟨by decide, Below.refl _ _⟩) rfl)
    | 9, ho =>
      obtain rfl := Option.some.inj ho
      have q7 : fa.tmps.getD 85 undef = .tuple #[.agg #[.bool i1, .int .i64 p1, .int .i64 c1, .bool n1, .slice none 0 0], .int .i64 ev] := hdep ⟨7, .data⟩ (by simp) rfl _ rfl
      refine .inl ⟨rfl, fun K hK => ?_⟩
      exact step_extract rfl q7 rfl (hK _ _ (.inl ⟨by decide, Below.refl _ _⟩) rfl)
    | 10, ho =>
      obtain rfl := Option.some.inj ho
      have q8 : fa.tmps.getD 93 undef = .agg #[.bool i1, .int .i64 p1, .int .i64 c1, .bool n1, .slice none 0 0] := hdep ⟨8, .data⟩ (by simp) rfl _ rfl
      refine .inl ⟨rfl, fun K hK => ?_⟩
      obtain ⟨u0, u1, u2, u3, u4, F9⟩ := hI.2
      exact step_store38 rfl rfl ((hout 11 rfl).trans rfl) q8 F9 (hK undef _ (.inr ⟨rfl, _, _, _, _, _, rfl⟩) (five_set F9 _ _ _ _ _))
    | 11, ho =>
      obtain rfl := Option.some.inj ho
      have q9 : fa.tmps.getD 94 undef = .int .i64 ev := hdep ⟨9, .data⟩ (by simp) rfl _ rfl
      refine .inl ⟨rfl, fun K hK => ?_⟩
      exact st_assign rfl q9 (hK _ _ (.inl ⟨by decide, Below.refl _ _⟩) rfl)
    | i + 12, ho => exact absurd (show i + 12 < 12 from hlt9) (by omega)
  · intro a2 w2 hs hd hout hI hall
    obtain ⟨tmps, defers⟩ := a2
    have e_10 : tmps.getD 10 undef = .int .i64 ev := hall 11 _ rfl
    have hst : Five w2 wr.heap.size (.bool i1) (.int .i64 p1) (.int .i64 c1) (.bool n1) (.slice none 0 0) := hall 10 _ rfl
    simp only at hs hd hout
    have ef := frameAt [some 86, some 87, some 88, some 89, some 90, some 91, some 92, some 85, some 93, some 94, none, some 10] _ tmps hs hout
    obtain ⟨sv26, hu⟩ : ∃ u : Nat → Value, u = fun s => tmps.getD s undef := ⟨_, rfl⟩
    have eu_10 : sv26 10 = .int .i64 ev := by rw [hu]; exact e_10
    rw [← hu] at ef
    have ef2 : tmps = #[Value.slice (some { block := ba, off := oa }) n cap, undef, u2, Value.pointer (some { block := KY, off := 0 }), Value.bool inn, Value.int IntKind.i64 pl, Value.int IntKind.i64 ct, Value.bool nw, Value.slice po pend.length cp, Value.int IntKind.i64 k, sv26 10, Value.pointer (some { block := wr.heap.size, off := 0 }), Value.int IntKind.i64 0, u13, u14, Value.slice (some { block := ba, off := oa }) n cap, Value.int IntKind.i64 n, Value.bool false, undef, Value.int IntKind.i64 k, Value.slice (some { block := ba, off := oa }) n cap, Value.int IntKind.i64 n, Value.bool true, u23, u24, Value.slice (some { block := ba, off := oa }) n cap, Value.int IntKind.i64 k, Value.pointer (some { block := ba, off := oa + k * 4 }), Value.pointer (some { block := ba, off := oa + k * 4 + 3 }), Value.slice ao2 n2 cap2, Value.int IntKind.i64 n2, Value.bool false, u32, Value.slice (some { block := ba, off := oa }) n cap, Value.int IntKind.i64 k, Value.pointer (some { block := ba, off := oa + k * 4 }), Value.pointer (some { block := ba, off := oa + k * 4 }), Value.int IntKind.u8 what, Value.int IntKind.u8 0, u39, u40, u41, u42, u43, u44, u45, u46, u47, u48, u49, u50, u51, u52, u53, u54, u55, u56, u57, u58, u59, u60, u61, u62, u63, u64, u65, u66, u67, u68, u69, u70, u71, u72, u73, u74, u75, u76, u77, u78, u79, u80, u81, u82, Value.bool true, Value.bool true, sv26 85, sv26 86, sv26 87, sv26 88, sv26 89, sv26 90, sv26 91, sv26 92, sv26 93, sv26 94, u95, u96, u97, u98, u99, u100, u101, u102, u103, u104, u105, u106, u107, u108, u109, u110, u111, u112, u113, u114, u115, u116, u117, u118, u119, u120, u121, u122, u123, u124, u125, u126, u127, u128, u129, u130, u131, u132, u133, u134, u135, u136, u137, u138, u139, u140, u141, u142, u143, u144, u145, u146, u147, u148, u149, u150, u151, u152, u153, u154, u155, u156, u157, u158, u159, u160, u161, u162, u163, u164, u165, u166, u167, u168, u169, u170, u171, u172, u173, u174, u175, u176, u177, u178, u179, u180, u181, u182, u183, u184, u185, u186, u187, u188, u189, u190, u191, u192, u193, u194, u195, u196, u197, u198, u199, u200, u201, u202, u203, u204, u205, u206, u207, u208, u209, u210, u211, u212, u213, u214, u215, u216, u217, u218, u219, u220, u221, u222, u223, u224, u225, u226, u227, u228, u229, u230, undef] := ef
    subst hd
    rw [eu_10] at ef2
    rw [ef2]
    clear ef ef2 hu hs hout hall e_10 eu_10
    have hbx := hI.1
    have t2 := (HAT.out.below hbx hba).2.2.1
    simp only at t2
    rcases HE.out with ⟨hs1, rfl, rfl, rfl, rfl, rfl⟩ | ⟨hs1, rfl, rfl, rfl, rfl, rfl, rfl⟩ | ⟨rfl, rfl, rfl, rfl, rfl, rfl, rfl⟩ | ⟨rfl, rfl, rfl, rfl, rfl, rfl, rfl⟩
    · have d1 : decide (1 < side) = true := decide_eq_true hs1
      go_wp2_with fail
      exact SwRel.of ⟨_, _, _, _, pend, po, cp, 1, rfl, rfl, rfl, rfl, rfl, rfl, rfl, Lib.hid (sw_err HS.out hbx hst (by decide)), hbx⟩
    · have d1 : decide (1 < side) = false := decide_eq_false (by omega)
      go_wp2_with fail
      exact SwRel.of ⟨_, _, _, _, pend, po, cp, 12, rfl, rfl, rfl, rfl, rfl, rfl, rfl, Lib.hid (sw_err HS.out hbx hst (by decide)), hbx⟩
    · go_wp2_with fail
      exact SwRel.of ⟨true, -13, _, true, [], none, 0, 0, rfl, rfl, rfl, rfl, rfl, rfl, rfl, Lib.hid (sw_enter HS.out (by omega) hst), hbx⟩
    · go_wp2_with fail
      exact SwRel.of ⟨true, 179, _, true, [], none, 0, 0, rfl, rfl, rfl, rfl, rfl, rfl, rfl, Lib.hid (sw_enter HS.out (by omega) hst), hbx⟩

end Go.Proofs.Ytikdhdikaihenaa
