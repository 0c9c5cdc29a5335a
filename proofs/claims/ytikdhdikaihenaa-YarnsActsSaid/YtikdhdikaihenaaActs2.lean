import Derived.Test.YtikdhdikaihenaaSwitch
import Derived.Test.YtikdhdikaihenaaLawReduce
import Derived.Deep.Cut
import Derived.Deep.CutRange
import Derived.Deep.CutBlock
namespace Go.Proofs.Ytikdhdikaihenaa
open Go.RowKit Go.Sort

def psi42 (pl : Int) (ct : Int) (p1 : Int) (c1 : Int) (ev : Int) (inn : Bool) (nw : Bool) (i1 : Bool) (n1 : Bool) (pend : List Ps) (bo : Option Addr) (ba : Nat) (oa : Nat) (n : Nat) (cap : Nat) (k : Nat) (KN : Nat) (place : Int) (rs : List Ps) (qs : List Ps) (aq : Option Addr) (cq : Nat) : Nat → Value → World → Prop
  | 0, v, _ => v = .agg #[.bool inn, .int .i64 pl, .int .i64 ct, .bool nw, .slice bo (List.length pend) (List.length pend)]
  | 1, v, _ => v = .slice (some ⟨ba, oa, none⟩) n cap
  | 2, v, _ => v = .int .i64 (k : Int)
  | 3, v, _ => v = .pointer (some ⟨ba, oa + k * 4, none⟩)
  | 4, v, _ => v = .pointer (some ⟨ba, oa + k * 4 + 1, none⟩)
  | 5, v, _ => v = .int .i64 place
  | 6, v, _ => v = .slice aq (List.length qs) cq
  | 7, v, w => ∃ bo1, v = .tuple #[.agg #[.bool i1, .int .i64 p1, .int .i64 c1, .bool n1, .slice bo1 (List.length rs) (List.length rs)], .int .i64 ev] ∧ Lie w bo1 rs ∧ ∀ b o, bo1 = some ⟨b, o, none⟩ → KN < b
  | 8, v, w => ∃ bo1, v = .tuple #[.agg #[.bool i1, .int .i64 p1, .int .i64 c1, .bool n1, .slice bo1 (List.length rs) (List.length rs)], .int .i64 ev] ∧ Lie w bo1 rs ∧ ∀ b o, bo1 = some ⟨b, o, none⟩ → KN < b
  | 9, v, w => ∃ bo1, v = .agg #[.bool i1, .int .i64 p1, .int .i64 c1, .bool n1, .slice bo1 (List.length rs) (List.length rs)] ∧ Lie w bo1 rs ∧ ∀ b o, bo1 = some ⟨b, o, none⟩ → KN < b
  | 10, v, _ => v = .int .i64 ev
  | 11, _, w => ∃ bo1, Five w KN (.bool i1) (.int .i64 p1) (.int .i64 c1) (.bool n1) (.slice bo1 (List.length rs) (List.length rs)) ∧ Lie w bo1 rs ∧ ∀ b o, bo1 = some ⟨b, o, none⟩ → KN < b
  | 12, v, _ => v = .int .i64 ev
  | _, _, _ => True
theorem psi42_below (pl : Int) (ct : Int) (p1 : Int) (c1 : Int) (ev : Int) (inn : Bool) (nw : Bool) (i1 : Bool) (n1 : Bool) (pend : List Ps) (bo : Option Addr) (ba : Nat) (oa : Nat) (n : Nat) (cap : Nat) (k : Nat) (KN : Nat) (place : Int) (rs : List Ps) (qs : List Ps) (aq : Option Addr) (cq : Nat) (i : Nat) (v : Value) (w w' : World) (h : psi42 pl ct p1 c1 ev inn nw i1 n1 pend bo ba oa n cap k KN place rs qs aq cq i v w) (hb : Below w.heap.size w w') : psi42 pl ct p1 c1 ev inn nw i1 n1 pend bo ba oa n cap k KN place rs qs aq cq i v w' := by
  match i, h with
  | 0, h => exact h
  | 1, h => exact h
  | 2, h => exact h
  | 3, h => exact h
  | 4, h => exact h
  | 5, h => exact h
  | 6, h => exact h
  | 7, ⟨bo1, h1, h2, h3⟩ => exact ⟨bo1, h1, h2.below hb, h3⟩
  | 8, ⟨bo1, h1, h2, h3⟩ => exact ⟨bo1, h1, h2.below hb, h3⟩
  | 9, ⟨bo1, h1, h2, h3⟩ => exact ⟨bo1, h1, h2.below hb, h3⟩
  | 10, h => exact h
  | 11, h => exact (by obtain ⟨bo1, h1, h2, h3⟩ := h; exact ⟨bo1, h1.below hb (five_lt h1), h2.below hb, h3⟩)
  | 12, h => exact h
  | i + 13, _ => exact trivial
theorem psi42_other (pl : Int) (ct : Int) (p1 : Int) (c1 : Int) (ev : Int) (inn : Bool) (nw : Bool) (i1 : Bool) (n1 : Bool) (pend : List Ps) (bo : Option Addr) (ba : Nat) (oa : Nat) (n : Nat) (cap : Nat) (k : Nat) (KN : Nat) (place : Int) (rs : List Ps) (qs : List Ps) (aq : Option Addr) (cq : Nat) (i : Nat) (v : Value) (w w' : World) (hne : i ≠ 11) (hl9 : ∀ ao ps, Lie w ao ps → (∀ b o, ao = some ⟨b, o, none⟩ → b ≠ KN) → Lie w' ao ps) (h : psi42 pl ct p1 c1 ev inn nw i1 n1 pend bo ba oa n cap k KN place rs qs aq cq i v w) : psi42 pl ct p1 c1 ev inn nw i1 n1 pend bo ba oa n cap k KN place rs qs aq cq i v w' := by
  match i, h with
  | 0, h => exact h
  | 1, h => exact h
  | 2, h => exact h
  | 3, h => exact h
  | 4, h => exact h
  | 5, h => exact h
  | 6, h => exact h
  | 7, ⟨bo1, h1, h2, h3⟩ => exact ⟨bo1, h1, hl9 _ _ h2 (fun b o e => Nat.ne_of_gt (h3 b o e)), h3⟩
  | 8, ⟨bo1, h1, h2, h3⟩ => exact ⟨bo1, h1, hl9 _ _ h2 (fun b o e => Nat.ne_of_gt (h3 b o e)), h3⟩
  | 9, ⟨bo1, h1, h2, h3⟩ => exact ⟨bo1, h1, hl9 _ _ h2 (fun b o e => Nat.ne_of_gt (h3 b o e)), h3⟩
  | 10, h => exact h
  | 11, _ => exact absurd rfl hne
  | 12, h => exact h
  | i + 13, _ => exact trivial
set_option maxRecDepth 1000000 in
set_option maxHeartbeats 4000000 in
theorem acts_case2 (ba oa n cap k KY : Nat) (inn : Bool) (pl ct : Int) (nw : Bool) (pend : List Ps) (po : Option Addr) (cp : Nat) (bo : Option Addr) (wr V : World) (what place side : Int) (ao2 : Option Addr) (n2 cap2 : Nat) (xs : List Int) (u2 u13 u14 u23 u24 u32 u39 u40 u41 u42 u43 u44 u45 u46 u47 u48 u49 u50 u51 u52 u53 u54 u55 u56 u57 u58 u59 u60 u61 u62 u63 u64 u65 u66 u67 u68 u69 u70 u71 u72 u73 u74 u75 u76 u77 u78 u79 u80 u81 u82 u83 u84 u85 u86 u87 u88 u89 u90 u91 u92 u93 u94 u95 u96 u97 u98 u99 u100 u101 u102 u103 u104 u105 u106 u107 u108 u109 u110 u111 u112 u113 u114 u115 u116 u117 u118 u119 u120 u121 u122 u123 u124 u125 u126 u127 u128 u129 u130 u131 u132 u133 u134 u135 u136 u137 u138 u139 u140 u141 u142 u143 u144 u145 u146 u147 u148 u149 u150 u151 u152 u153 u154 u155 u156 u157 u158 u159 u160 u161 u162 u163 u164 u165 u166 u167 u168 u169 u170 u171 u172 u173 u174 u175 u176 u177 u178 u179 u180 u181 u182 u183 u184 u185 u186 u187 u188 u189 u190 u191 u192 u193 u194 u195 u196 u197 u198 u199 u200 u201 u202 u203 u204 u205 u206 u207 u208 u209 u210 u211 u212 u213 u214 u215 u216 u217 u218 u219 u220 u221 u222 u223 u224 u225 u226 u227 u228 u229 u230 : Value)
    (HS : Hid (StOk wr KY k inn pl ct nw pend po cp bo)) (HAT : Hid (ActAt wr ba (oa + k * 4) ⟨what, place, side, ao2, n2, cap2, xs⟩)) (HOK : Hid (AcOk wr ⟨what, place, side, ao2, n2, cap2, xs⟩)) (FN : Hid (Five V wr.heap.size (.bool false) (.int .i64 0) (.int .i64 0) (.bool false) (.slice none 0 0)))
    (hbV : Below wr.heap.size wr V) (hba : ba < wr.heap.size) (hKYr : KY < wr.heap.size) (hlt : k < n) (h10 : n2 ≤ 10) (b0 : (0 : Int) ≤ (k : Int)) (b9 : (k : Int) < n) (hk30 : k ≤ 30) (hL : pend.length ≤ 300) (h4 : what.tmod 4 = 2)
    (Kp : Act → World → Prop) (Qx : Exit → Act → World → Prop)
    (hK : ∀ (s4 s5 s6 s7 s8 s10 s12 s13 s14 v19 v20 v21 v22 v23 v24 v25 v26 v27 v28 v29 v30 v31 v32 v33 v34 v35 v36 v37 v38 v39 v40 v41 v42 v43 v44 v45 v46 v47 v48 v49 v50 v51 v52 v53 v54 v55 v56 v57 v58 v59 v60 v61 v62 v63 v64 v65 v66 v67 v68 v69 v70 v71 v72 v73 v74 v75 v76 v77 v78 v79 v80 v81 v82 v83 v84 v85 v86 v87 v88 v89 v90 v91 v92 v93 v94 v95 v96 v97 v98 v99 v100 v101 v102 v103 v104 v105 v106 v107 v108 v109 v110 v111 v112 v113 v114 v115 v116 v117 v118 v119 v120 v121 v122 v123 v124 v125 v126 v127 v128 v129 v130 v131 v132 v133 v134 v135 v136 v137 v138 v139 v140 v141 v142 v143 v144 v145 v146 v147 v148 v149 v150 v151 v152 v153 v154 v155 v156 v157 v158 v159 v160 v161 v162 v163 v164 v165 v166 v167 v168 v169 v170 v171 v172 v173 v174 : Value) (wx : World), SwRel KY k wr inn pl ct nw pend s4 s5 s6 s7 s8 s10 s12 wx → Kp ⟨#[Value.slice (some { block := ba, off := oa }) n cap, undef, u2, Value.pointer (some { block := KY, off := 0 }), s4, s5, s6, s7, s8, Value.int IntKind.i64 k, s10, Value.pointer (some { block := wr.heap.size, off := 0 }), s12, s13, s14, Value.slice (some { block := ba, off := oa }) n cap, Value.int IntKind.i64 n, Value.bool false, undef, v19, v20, v21, v22, v23, v24, v25, v26, v27, v28, v29, v30, v31, v32, v33, v34, v35, v36, v37, v38, v39, v40, v41, v42, v43, v44, v45, v46, v47, v48, v49, v50, v51, v52, v53, v54, v55, v56, v57, v58, v59, v60, v61, v62, v63, v64, v65, v66, v67, v68, v69, v70, v71, v72, v73, v74, v75, v76, v77, v78, v79, v80, v81, v82, v83, v84, v85, v86, v87, v88, v89, v90, v91, v92, v93, v94, v95, v96, v97, v98, v99, v100, v101, v102, v103, v104, v105, v106, v107, v108, v109, v110, v111, v112, v113, v114, v115, v116, v117, v118, v119, v120, v121, v122, v123, v124, v125, v126, v127, v128, v129, v130, v131, v132, v133, v134, v135, v136, v137, v138, v139, v140, v141, v142, v143, v144, v145, v146, v147, v148, v149, v150, v151, v152, v153, v154, v155, v156, v157, v158, v159, v160, v161, v162, v163, v164, v165, v166, v167, v168, v169, v170, v171, v172, v173, v174, u175, u176, u177, u178, u179, u180, u181, u182, u183, u184, u185, u186, u187, u188, u189, u190, u191, u192, u193, u194, u195, u196, u197, u198, u199, u200, u201, u202, u203, u204, u205, u206, u207, u208, u209, u210, u211, u212, u213, u214, u215, u216, u217, u218, u219, u220, u221, u222, u223, u224, u225, u226, u227, u228, u229, u230, undef], []⟩ wx) :
    Code.wp Try.prog blk2 (Exit.then Kp Qx) ⟨#[Value.slice (some { block := ba, off := oa }) n cap, undef, u2, Value.pointer (some { block := KY, off := 0 }), Value.bool inn, Value.int IntKind.i64 pl, Value.int IntKind.i64 ct, Value.bool nw, Value.slice po pend.length cp, Value.int IntKind.i64 k, Value.int IntKind.i64 0, Value.pointer (some { block := wr.heap.size, off := 0 }), Value.int IntKind.i64 0, u13, u14, Value.slice (some { block := ba, off := oa }) n cap, Value.int IntKind.i64 n, Value.bool false, undef, Value.int IntKind.i64 k, Value.slice (some { block := ba, off := oa }) n cap, Value.int IntKind.i64 n, Value.bool true, u23, u24, Value.slice (some { block := ba, off := oa }) n cap, Value.int IntKind.i64 k, Value.pointer (some { block := ba, off := oa + k * 4 }), Value.pointer (some { block := ba, off := oa + k * 4 + 3 }), Value.slice ao2 n2 cap2, Value.int IntKind.i64 n2, Value.bool false, u32, Value.slice (some { block := ba, off := oa }) n cap, Value.int IntKind.i64 k, Value.pointer (some { block := ba, off := oa + k * 4 }), Value.pointer (some { block := ba, off := oa + k * 4 }), Value.int IntKind.u8 what, Value.int IntKind.u8 (what.tmod 4), u39, u40, u41, u42, u43, u44, u45, u46, u47, u48, u49, u50, u51, u52, u53, u54, u55, u56, u57, u58, u59, u60, u61, u62, u63, u64, u65, u66, u67, u68, u69, u70, u71, u72, u73, u74, u75, u76, u77, u78, u79, u80, u81, u82, u83, u84, u85, u86, u87, u88, u89, u90, u91, u92, u93, u94, u95, u96, u97, u98, u99, u100, u101, u102, u103, u104, u105, u106, u107, u108, u109, u110, u111, u112, u113, u114, u115, u116, u117, u118, u119, u120, u121, u122, u123, u124, u125, u126, u127, u128, u129, u130, u131, u132, u133, u134, u135, u136, u137, u138, u139, u140, u141, u142, u143, u144, u145, u146, u147, u148, u149, u150, u151, u152, u153, u154, u155, u156, u157, u158, u159, u160, u161, u162, u163, u164, u165, u166, u167, u168, u169, u170, u171, u172, u173, u174, u175, u176, u177, u178, u179, u180, u181, u182, u183, u184, u185, u186, u187, u188, u189, u190, u191, u192, u193, u194, u195, u196, u197, u198, u199, u200, u201, u202, u203, u204, u205, u206, u207, u208, u209, u210, u211, u212, u213, u214, u215, u216, u217, u218, u219, u220, u221, u222, u223, u224, u225, u226, u227, u228, u229, u230, undef], []⟩ V := by
  conv => arg 2; whnf
  rw [h4]
  have t3 := (HAT.out.below hbV hba).2.2.2
  simp only at t3
  go_wp2_with (go_at_call 10; refine (of_any ao2 xs n2 cap2 _ HOK.out.1 (by omega) HOK.out.2.2.1 (HOK.out.2.1.below hbV)).mono ?_; intro e w2 hh; obtain ⟨aq, cq, rfl, hoq, hlq, hbq⟩ := hh.out; refine Hid.out ?_)
  have hVn := five_lt FN.out
  have hNq : ∀ b o, aq = some ⟨b, o, none⟩ → b ≠ wr.heap.size := by
    rintro b o rfl
    have := (hoq.out.lt b rfl).1
    omega
  have HNQ := Lib.hid hNq
  have hql : (xs.map pOf).length ≤ 10 := by
    have := HOK.out.1
    simp only at this
    rw [List.length_map]; omega
  have hgd : ∀ p ∈ xs.map pOf, Good p := good_of' xs HOK.out.2.2.1
  obtain ⟨qs, hqs⟩ : ∃ qs, qs = xs.map pOf := ⟨_, rfl⟩
  rw [← hqs] at hlq hql hgd
  have hxl : xs.length = qs.length := by rw [hqs, List.length_map]
  rw [hxl]
  have HGD := Lib.hid hgd
  have HQ := Lib.hid hlq
  have hbx2 : Below wr.heap.size wr w2 := hbV.trans (hbq.mono hbV.size)
  have FN2 := Lib.hid (FN.out.below hbq hVn)
  obtain ⟨i1, p1, c1, n1, rs, ev, hg, hc⟩ := go_gen inn pl ct nw bo pend qs pend.length pend.length qs.length place rfl (by omega) rfl (by omega) hgd HS.out.vy
  have HG := Lib.hid hg
  have HC := Lib.hid hc
  clear hg hc t3 hqs hxl hlq hgd hoq hNq hh hbq
  refine Lib.hid ?_
  go_wp2_with fail
  refine rgR [some 127, some 128, some 129, some 130, some 131, some 132, some 133, some 134, some 126, some 135, some 136, none, some 10] (psi42 pl ct p1 c1 ev inn nw i1 n1 pend bo ba oa n cap k wr.heap.size place rs qs aq cq) (invQ wr.heap.size wr aq qs) (relS 11 wr.heap.size) (by kernel_rfl) (by kernel_rfl) (by kernel_rfl) (fun i j v w w' hji hI hp hr => by
    rcases hr with ⟨_, hb⟩ | ⟨rfl, v0, v1, v2, v3, v4, rfl⟩
    · exact psi42_below pl ct p1 c1 ev inn nw i1 n1 pend bo ba oa n cap k wr.heap.size place rs qs aq cq j v w w' hp hb
    · exact psi42_other pl ct p1 c1 ev inn nw i1 n1 pend bo ba oa n cap k wr.heap.size place rs qs aq cq j v w _ hji (fun ao ps h hne => lie_sets5 h hne _ _ _ _ _) hp) (invQ_stab 11 HNQ.out) (fun i o ho fa w1 hs hout hI hdep hold => ?_) ?_ ⟨⟨hbx2.drew, _, _, _, _, _, FN2.out⟩, HQ.out⟩
  · have hlt9 := (Array.getElem?_eq_some_iff.1 ho).1
    have F1 := HS.out.yarn.below hI.1.1 hKYr
    have T1 := HAT.out.below hI.1.1 hba
    have L1 := HS.out.lieY.below hI.1.1
    have t1 := T1.2.1
    have t2 := T1.2.2.1
    have t3 := T1.2.2.2
    simp only at t1 t2 t3
    match i, ho with
    | 0, ho =>
      obtain rfl := Option.some.inj ho
      refine .inl ⟨rfl, fun K hK => ?_⟩
      exact ld38 rfl ((hout 3 rfl).trans rfl) F1 (hK _ _ (.inl ⟨by decide, Below.refl _ _⟩) rfl)
    | 1, ho =>
      obtain rfl := Option.some.inj ho
      refine .inl ⟨rfl, fun K hK => ?_⟩
      exact st_move rfl ((hout 0 rfl).trans rfl) (hK _ _ (.inl ⟨by decide, Below.refl _ _⟩) rfl)
    | 2, ho =>
      obtain rfl := Option.some.inj ho
      refine .inl ⟨rfl, fun K hK => ?_⟩
      exact st_move rfl ((hout 9 rfl).trans rfl) (hK _ _ (.inl ⟨by decide, Below.refl _ _⟩) rfl)
    | 3, ho =>
      obtain rfl := Option.some.inj ho
      have q1 : fa.tmps.getD 128 undef = .slice (some ⟨ba, oa, none⟩) n cap := hdep ⟨1, .data⟩ (by simp) rfl _ rfl
      have q2 : fa.tmps.getD 129 undef = .int .i64 (k : Int) := hdep ⟨2, .data⟩ (by simp) rfl _ rfl
      refine .inl ⟨rfl, fun K hK => ?_⟩
      exact st_idx36 rfl q1 q2 hlt (hK _ _ (.inl ⟨by decide, Below.refl _ _⟩) rfl)
    | 4, ho =>
      obtain rfl := Option.some.inj ho
      have q3 : fa.tmps.getD 130 undef = .pointer (some ⟨ba, oa + k * 4, none⟩) := hdep ⟨3, .data⟩ (by simp) rfl _ rfl
      refine .inl ⟨rfl, fun K hK => ?_⟩
      exact fa40_1 rfl q3 (hK _ _ (.inl ⟨by decide, Below.refl _ _⟩) rfl)
    | 5, ho =>
      obtain rfl := Option.some.inj ho
      have q4 : fa.tmps.getD 131 undef = .pointer (some ⟨ba, oa + k * 4 + 1, none⟩) := hdep ⟨4, .data⟩ (by simp) rfl _ rfl
      refine .inl ⟨rfl, fun K hK => ?_⟩
      exact ld3 rfl q4 t1 (hK _ _ (.inl ⟨by decide, Below.refl _ _⟩) rfl)
    | 6, ho =>
      obtain rfl := Option.some.inj ho
      refine .inl ⟨rfl, fun K hK => ?_⟩
      exact st_move rfl ((hout 13 rfl).trans rfl) (hK _ _ (.inl ⟨by decide, Below.refl _ _⟩) rfl)
    | 7, ho =>
      obtain rfl := Option.some.inj ho
      have q0 : fa.tmps.getD 127 undef = .agg #[.bool inn, .int .i64 pl, .int .i64 ct, .bool nw, .slice bo (List.length pend) (List.length pend)] := hdep ⟨0, .data⟩ (by simp) rfl _ rfl
      have q5 : fa.tmps.getD 132 undef = .int .i64 place := hdep ⟨5, .data⟩ (by simp) rfl _ rfl
      have q6 : fa.tmps.getD 133 undef = .slice aq (List.length qs) cq := hdep ⟨6, .data⟩ (by simp) rfl _ rfl
      refine .inl ⟨rfl, fun K hK => ?_⟩
      obtain ⟨u0, u1, u2, u3, u4, F9⟩ := hI.1.2
      have hlt8 := five_lt F9
      exact step_calls rfl enter19 (vs := #[.agg #[.bool inn, .int .i64 pl, .int .i64 ct, .bool nw, .slice bo (List.length pend) (List.length pend)], .int .i64 place, .slice aq (List.length qs) cq]) (vals3 q0 q5 q6) ((HC.out _ aq cq L1 hI.2).mono fun e w' hh => by
        obtain ⟨bo1, rfl, hl1, hn1, hb⟩ := hh
        exact ⟨_, rfl, hK _ _ (.inl ⟨by decide, hb⟩) ⟨bo1, rfl, hl1, fun b o e => Nat.lt_of_lt_of_le hlt8 (hn1 b o e)⟩⟩)
    | 8, ho =>
      obtain rfl := Option.some.inj ho
      have q7 : ∃ bo1, fa.tmps.getD 134 undef = .tuple #[.agg #[.bool i1, .int .i64 p1, .int .i64 c1, .bool n1, .slice bo1 (List.length rs) (List.length rs)], .int .i64 ev] ∧ Lie w1 bo1 rs ∧ ∀ b o, bo1 = some ⟨b, o, none⟩ → wr.heap.size < b := hdep ⟨7, .data⟩ (by simp) rfl _ rfl
      obtain ⟨bo1, q7, hl1, hn1⟩ := q7
      refine .inl ⟨rfl, fun K hK => ?_⟩
      exact st_move rfl q7 (hK _ _ (.inl ⟨by decide, Below.refl _ _⟩) ⟨bo1, rfl, hl1, hn1⟩)
    | 9, ho =>
      obtain rfl := Option.some.inj ho
      have q8 : ∃ bo1, fa.tmps.getD 126 undef = .tuple #[.agg #[.bool i1, .int .i64 p1, .int .i64 c1, .bool n1, .slice bo1 (List.length rs) (List.length rs)], .int .i64 ev] ∧ Lie w1 bo1 rs ∧ ∀ b o, bo1 = some ⟨b, o, none⟩ → wr.heap.size < b := hdep ⟨8, .data⟩ (by simp) rfl _ rfl
      obtain ⟨bo1, q8, hl1, hn1⟩ := q8
      refine .inl ⟨rfl, fun K hK => ?_⟩
      exact step_extract rfl q8 rfl (hK _ _ (.inl ⟨by decide, Below.refl _ _⟩) ⟨bo1, rfl, hl1, hn1⟩)
    | 10, ho =>
      obtain rfl := Option.some.inj ho
      have q8 : ∃ bo1, fa.tmps.getD 126 undef = .tuple #[.agg #[.bool i1, .int .i64 p1, .int .i64 c1, .bool n1, .slice bo1 (List.length rs) (List.length rs)], .int .i64 ev] ∧ Lie w1 bo1 rs ∧ ∀ b o, bo1 = some ⟨b, o, none⟩ → wr.heap.size < b := hdep ⟨8, .data⟩ (by simp) rfl _ rfl
      obtain ⟨bo1, q8, hl1, hn1⟩ := q8
      refine .inl ⟨rfl, fun K hK => ?_⟩
      exact step_extract rfl q8 rfl (hK _ _ (.inl ⟨by decide, Below.refl _ _⟩) rfl)
    | 11, ho =>
      obtain rfl := Option.some.inj ho
      have q9 : ∃ bo1, fa.tmps.getD 135 undef = .agg #[.bool i1, .int .i64 p1, .int .i64 c1, .bool n1, .slice bo1 (List.length rs) (List.length rs)] ∧ Lie w1 bo1 rs ∧ ∀ b o, bo1 = some ⟨b, o, none⟩ → wr.heap.size < b := hdep ⟨9, .data⟩ (by simp) rfl _ rfl
      obtain ⟨bo1, q9, hl1, hn1⟩ := q9
      refine .inl ⟨rfl, fun K hK => ?_⟩
      obtain ⟨u0, u1, u2, u3, u4, F9⟩ := hI.1.2
      exact step_store38 rfl rfl ((hout 11 rfl).trans rfl) q9 F9 (hK undef _ (.inr ⟨rfl, _, _, _, _, _, rfl⟩) ⟨bo1, five_set F9 _ _ _ _ _, lie_sets5 hl1 (fun b o e => Nat.ne_of_gt (hn1 b o e)) _ _ _ _ _, hn1⟩)
    | 12, ho =>
      obtain rfl := Option.some.inj ho
      have q10 : fa.tmps.getD 136 undef = .int .i64 ev := hdep ⟨10, .data⟩ (by simp) rfl _ rfl
      refine .inl ⟨rfl, fun K hK => ?_⟩
      exact st_assign rfl q10 (hK _ _ (.inl ⟨by decide, Below.refl _ _⟩) rfl)
    | i + 13, ho => exact absurd (show i + 13 < 13 from hlt9) (by omega)
  · intro a2 w3 hs hd hout hI hall
    obtain ⟨tmps, defers⟩ := a2
    have e_10 : tmps.getD 10 undef = .int .i64 ev := hall 12 _ rfl
    have hst : ∃ bo1, Five w3 wr.heap.size (.bool i1) (.int .i64 p1) (.int .i64 c1) (.bool n1) (.slice bo1 (List.length rs) (List.length rs)) ∧ Lie w3 bo1 rs ∧ ∀ b o, bo1 = some ⟨b, o, none⟩ → wr.heap.size < b := hall 11 _ rfl
    simp only at hs hd hout
    have ef := frameAt [some 127, some 128, some 129, some 130, some 131, some 132, some 133, some 134, some 126, some 135, some 136, none, some 10] _ tmps hs hout
    obtain ⟨sv42, hu⟩ : ∃ u : Nat → Value, u = fun s => tmps.getD s undef := ⟨_, rfl⟩
    have eu_10 : sv42 10 = .int .i64 ev := by rw [hu]; exact e_10
    rw [← hu] at ef
    have ef2 : tmps = #[Value.slice (some { block := ba, off := oa }) n cap, undef, u2, Value.pointer (some { block := KY, off := 0 }), Value.bool inn, Value.int IntKind.i64 pl, Value.int IntKind.i64 ct, Value.bool nw, Value.slice po pend.length cp, Value.int IntKind.i64 k, sv42 10, Value.pointer (some { block := wr.heap.size, off := 0 }), Value.int IntKind.i64 0, Value.slice aq qs.length cq, u14, Value.slice (some { block := ba, off := oa }) n cap, Value.int IntKind.i64 n, Value.bool false, undef, Value.int IntKind.i64 k, Value.slice (some { block := ba, off := oa }) n cap, Value.int IntKind.i64 n, Value.bool true, u23, u24, Value.slice (some { block := ba, off := oa }) n cap, Value.int IntKind.i64 k, Value.pointer (some { block := ba, off := oa + k * 4 }), Value.pointer (some { block := ba, off := oa + k * 4 + 3 }), Value.slice ao2 n2 cap2, Value.int IntKind.i64 n2, Value.bool false, u32, Value.slice (some { block := ba, off := oa }) n cap, Value.int IntKind.i64 k, Value.pointer (some { block := ba, off := oa + k * 4 }), Value.pointer (some { block := ba, off := oa + k * 4 }), Value.int IntKind.u8 what, Value.int IntKind.u8 2, u39, u40, u41, u42, u43, u44, u45, u46, u47, u48, u49, u50, u51, u52, u53, u54, u55, u56, u57, u58, u59, u60, u61, u62, u63, u64, u65, u66, u67, u68, u69, u70, u71, u72, u73, u74, u75, u76, u77, u78, u79, u80, u81, u82, Value.bool false, Value.bool false, u85, u86, u87, u88, u89, u90, u91, u92, u93, u94, u95, u96, u97, u98, u99, u100, u101, u102, u103, u104, u105, u106, u107, u108, u109, Value.bool false, Value.bool false, u112, u113, u114, u115, u116, u117, Value.bool true, Value.bool true, Value.slice (some { block := ba, off := oa }) n cap, Value.int IntKind.i64 k, Value.pointer (some { block := ba, off := oa + k * 4 }), Value.pointer (some { block := ba, off := oa + k * 4 + 3 }), Value.slice ao2 n2 cap2, Value.slice aq qs.length cq, sv42 126, sv42 127, sv42 128, sv42 129, sv42 130, sv42 131, sv42 132, sv42 133, sv42 134, sv42 135, sv42 136, u137, u138, u139, u140, u141, u142, u143, u144, u145, u146, u147, u148, u149, u150, u151, u152, u153, u154, u155, u156, u157, u158, u159, u160, u161, u162, u163, u164, u165, u166, u167, u168, u169, u170, u171, u172, u173, u174, u175, u176, u177, u178, u179, u180, u181, u182, u183, u184, u185, u186, u187, u188, u189, u190, u191, u192, u193, u194, u195, u196, u197, u198, u199, u200, u201, u202, u203, u204, u205, u206, u207, u208, u209, u210, u211, u212, u213, u214, u215, u216, u217, u218, u219, u220, u221, u222, u223, u224, u225, u226, u227, u228, u229, u230, undef] := ef
    subst hd
    rw [eu_10] at ef2
    rw [ef2]
    clear ef ef2 hu hs hout hall e_10 eu_10
    obtain ⟨bo1, hf1, hl1, hn1⟩ := hst
    have hbx := hI.1.1
    have HQ3 := Lib.hid hI.2
    have t1 := (HAT.out.below hbx hba).2.1
    simp only at t1
    have HF := Lib.hid hf1
    have HL1 := Lib.hid hl1
    have HN1 := Lib.hid hn1
    clear hf1 hl1 hn1 hI HQ FN2
    rcases HG.out with ⟨hp, rfl, rfl, rfl, rfl, rfl, rfl⟩ | ⟨hp, rfl, rfl, rfl, rfl, rfl, rfl, rfl⟩ | ⟨hp, rfl, rfl, rfl, rfl, rfl, hrs, rfl⟩
    · by_cases hp1 : place < -13
      · have d1 : decide (place < -13) = true := by simp; omega
        go_wp2_with fail
        exact SwRel.of ⟨_, _, _, _, pend, po, cp, 1, rfl, rfl, rfl, rfl, rfl, rfl, rfl, Lib.hid (sw_err HS.out hbx HF.out (by decide)), hbx⟩
      · by_cases hp2 : 179 < place
        · have d1 : decide (place < -13) = false := by simp; omega
          have d2 : decide (179 < place) = true := by simp; omega
          go_wp2_with fail
          exact SwRel.of ⟨_, _, _, _, pend, po, cp, 1, rfl, rfl, rfl, rfl, rfl, rfl, rfl, Lib.hid (sw_err HS.out hbx HF.out (by decide)), hbx⟩
        · have hp3 : place.tmod 2 = 0 := Decidable.byContradiction fun h => hp ⟨by omega, by omega, h⟩
          have d1 : decide (place < -13) = false := by simp; omega
          have d2 : decide (179 < place) = false := by simp; omega
          have d3 : (place.tmod 2 == 0) = true := by simp [hp3]
          go_wp2_with fail
          exact SwRel.of ⟨_, _, _, _, pend, po, cp, 1, rfl, rfl, rfl, rfl, rfl, rfl, rfl, Lib.hid (sw_err HS.out hbx HF.out (by decide)), hbx⟩
    · obtain ⟨hp1, hp2, hp3⟩ := hp
      have d1 : decide (place < -13) = false := by simp; omega
      have d2 : decide (179 < place) = false := by simp; omega
      have d3 : (place.tmod 2 == 0) = false := by simp [hp3]
      go_wp2_with fail
      exact SwRel.of ⟨_, _, _, _, pend, po, cp, 12, rfl, rfl, rfl, rfl, rfl, rfl, rfl, Lib.hid (sw_err HS.out hbx HF.out (by decide)), hbx⟩
    · have hpk := Lib.hid hp
      obtain ⟨hp1, hp2, hp3⟩ := hp
      have d1 : decide (p1 < -13) = false := by simp; omega
      have d2 : decide (179 < p1) = false := by simp; omega
      have d3 : (p1.tmod 2 == 0) = false := by simp [hp3]
      have HRS := Lib.hid hrs
      have hrl := length_red (pend ++ qs)
      rw [List.length_append] at hrl
      clear hp1 hp2 hp3 hrs
      go_wp2_with (at_builtin; refine wpList_append_lie rfl (.tmp 142) (.tmp 143) rfl w3.heap.size _ 0 [] rfl (World.ownsRow_lit w3 #[] 0 (Nat.le_refl _) (Nat.zero_le _) rfl) _ _ _ rfl pend rfl ((HS.out.lieP.below hbx).below (below1 _ _)) (by omega) (by simp) ?_)
      intro v4 W4 ho hg
      have hbx4 : Below w3.heap.size w3 W4 := (below1 w3 _).grown hg (by simp) (by rintro _ ⟨⟩; exact Nat.le_refl _)
      try simp only [Nat.zero_add, List.nil_append] at ho
      have HO := Lib.hid ho
      clear ho hg
      go_wp2_with (at_builtin; refine wpList_append_lie rfl (.tmp 144) (.tmp 145) rfl w3.heap.size _ _ pend rfl HO.out aq _ _ rfl qs rfl (HQ3.out.below hbx4) (by omega) hbx4.size ?_)
      intro v5 W5 ho hg
      have hby : Below w3.heap.size w3 W5 := hbx4.grown hg hbx4.size (fun j hj => (HO.out.lt j hj).1)
      obtain ⟨hq, aoC, capC, rfl, -, -, hlC⟩ := lie_of_owns ho
      have HLC := Lib.hid hlC
      have HQL := Lib.hid hq
      clear ho hg hlC HO hq
      have hpos : Pos (pend ++ qs) := by
        intro p hp
        have hv := HS.out.vy.2
        simp only [if_true] at hv
        rcases List.mem_append.1 hp with h | h
        · rcases (hv.2.2.1 p h).2 with h | h <;> omega
        · rcases (HGD.out p h).2 with h | h <;> omega
      have HPO := Lib.hid hpos
      clear hpos
      go_wp2_with (go_at_call 12; refine (reduced_any _ (pend ++ qs) _ _ _ HQL.out (by omega) HLC.out HPO.out).mono ?_; intro e W6 hh; obtain ⟨po1, rfl, ho6, hl6, hbc⟩ := hh.out; refine Hid.out ?_)
      have hbz : Below w3.heap.size w3 W6 := hby.trans (hbc.mono hby.size)
      have hb6 : Below wr.heap.size wr W6 := hbx.trans (hbz.mono hbx.size)
      have HF6 := HF.out.below hbz (five_lt HF.out)
      have HL6 := HL1.out.below hbz
      have hky6 : KY < W5.heap.size := by have := hby.size; have := hbx.size; omega
      have hn6 := ne_of_own ho6.out hky6
      have hr6 := room_of ho6.out
      have H6 := Lib.hid (sw_go hk30 HS.out hpk.out HGD.out hql HRS.out HF6 HL6 (fun b o e => by have := HN1.out b o e; omega) (by rw [HRS.out]; exact hl6) hn6 (by rw [HRS.out]; exact hr6))
      rw [← HRS.out]
      clear hh hl6 hbc HL6 hn6 hr6 ho6 hby
      refine Lib.hid ?_
      go_wp2_with fail
      exact SwRel.of ⟨true, p1, _, _, rs, po1, rs.length, 0, rfl, rfl, rfl, rfl, rfl, rfl, rfl, H6, hb6⟩

end Go.Proofs.Ytikdhdikaihenaa
