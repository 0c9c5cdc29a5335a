import Derived.Test.YtikdhdikaihenaaSwitch
import Derived.Test.YtikdhdikaihenaaLawReduce
import Derived.Deep.Cut
import Derived.Deep.CutRange
import Derived.Deep.CutBlock
namespace Go.Proofs.Ytikdhdikaihenaa
open Go.RowKit Go.Sort

def psi21 (ct : Int) (nw : Bool) (pend : List Ps) (bo2 : Option Addr) (po : Option Addr) (cp : Nat) (KM : Nat) (B : Nat) : Nat → Value → World → Prop
  | 0, v, _ => v = .pointer (some ⟨KM, 0, none⟩)
  | 1, v, _ => v = .int .i64 ct
  | 2, v, _ => v = .int .i64 ct
  | 3, v, _ => v = .bool false
  | 4, v, _ => v = .bool false
  | 5, v, _ => v = .pointer (some ⟨KM, 1, none⟩)
  | 6, v, _ => v = .bool nw
  | 7, v, _ => v = .bool nw
  | 8, v, _ => v = .bool false
  | 9, v, _ => v = .bool false
  | 10, v, _ => v = .bool false
  | 11, v, _ => v = .pointer (some ⟨KM, 2, none⟩)
  | 12, v, _ => v = .slice bo2 (List.length pend) (List.length pend)
  | 13, v, _ => v = .slice po (List.length pend) cp
  | 14, v, _ => v = .int .i64 ((List.length pend) : Int)
  | 15, v, w => ∃ g, v = .slice (some ⟨g, 0, none⟩) 0 (List.length pend) ∧ OwnZ w B g (List.length pend)
  | 16, v, _ => v = .slice po (List.length pend) cp
  | 17, v, w => ∃ g, v = .slice (some ⟨g, 0, none⟩) (List.length pend) (List.length pend) ∧ Lie w (some ⟨g, 0, none⟩) pend
  | 18, v, _ => v = .int .i64 1
  | 19, v, _ => v = .bool false
  | 20, v, _ => v = .bool false
  | _, _, _ => True
theorem psi21_below (ct : Int) (nw : Bool) (pend : List Ps) (bo2 : Option Addr) (po : Option Addr) (cp : Nat) (KM : Nat) (B : Nat) (i : Nat) (v : Value) (w w' : World) (h : psi21 ct nw pend bo2 po cp KM B i v w) (hb : Below w.heap.size w w') : psi21 ct nw pend bo2 po cp KM B i v w' := by
  match i, h with
  | 0, h => exact h
  | 1, h => exact h
  | 2, h => exact h
  | 3, h => exact h
  | 4, h => exact h
  | 5, h => exact h
  | 6, h => exact h
  | 7, h => exact h
  | 8, h => exact h
  | 9, h => exact h
  | 10, h => exact h
  | 11, h => exact h
  | 12, h => exact h
  | 13, h => exact h
  | 14, h => exact h
  | 15, h => exact (by obtain ⟨g, h1, h2⟩ := h; exact ⟨g, h1, h2.below hb⟩)
  | 16, h => exact h
  | 17, h => exact (by obtain ⟨g, h1, h2⟩ := h; exact ⟨g, h1, h2.below hb⟩)
  | 18, h => exact h
  | 19, h => exact h
  | 20, h => exact h
  | i + 21, _ => exact trivial
theorem psi21_other (ct : Int) (nw : Bool) (pend : List Ps) (bo2 : Option Addr) (po : Option Addr) (cp : Nat) (KM : Nat) (B : Nat) (i : Nat) (v : Value) (w w' : World) (hne : i ≠ 17) (hs : ∀ g' n', OwnZ w B g' n' → OwnZ w' B g' n') (h : psi21 ct nw pend bo2 po cp KM B i v w) : psi21 ct nw pend bo2 po cp KM B i v w' := by
  match i, h with
  | 0, h => exact h
  | 1, h => exact h
  | 2, h => exact h
  | 3, h => exact h
  | 4, h => exact h
  | 5, h => exact h
  | 6, h => exact h
  | 7, h => exact h
  | 8, h => exact h
  | 9, h => exact h
  | 10, h => exact h
  | 11, h => exact h
  | 12, h => exact h
  | 13, h => exact h
  | 14, h => exact h
  | 15, h => exact (by obtain ⟨g, h1, h2⟩ := h; exact ⟨g, h1, hs _ _ h2⟩)
  | 16, h => exact h
  | 17, _ => exact absurd rfl hne
  | 18, h => exact h
  | 19, h => exact h
  | 20, h => exact h
  | i + 21, _ => exact trivial
set_option maxRecDepth 1000000 in
set_option maxHeartbeats 4000000 in
theorem acts_case3 (ba oa n cap k KY : Nat) (inn : Bool) (pl ct : Int) (nw : Bool) (pend : List Ps) (po : Option Addr) (cp : Nat) (bo : Option Addr) (wr V : World) (what place side : Int) (ao2 : Option Addr) (n2 cap2 : Nat) (xs : List Int) (u2 u13 u14 u23 u24 u32 u39 u40 u41 u42 u43 u44 u45 u46 u47 u48 u49 u50 u51 u52 u53 u54 u55 u56 u57 u58 u59 u60 u61 u62 u63 u64 u65 u66 u67 u68 u69 u70 u71 u72 u73 u74 u75 u76 u77 u78 u79 u80 u81 u82 u83 u84 u85 u86 u87 u88 u89 u90 u91 u92 u93 u94 u95 u96 u97 u98 u99 u100 u101 u102 u103 u104 u105 u106 u107 u108 u109 u110 u111 u112 u113 u114 u115 u116 u117 u118 u119 u120 u121 u122 u123 u124 u125 u126 u127 u128 u129 u130 u131 u132 u133 u134 u135 u136 u137 u138 u139 u140 u141 u142 u143 u144 u145 u146 u147 u148 u149 u150 u151 u152 u153 u154 u155 u156 u157 u158 u159 u160 u161 u162 u163 u164 u165 u166 u167 u168 u169 u170 u171 u172 u173 u174 u175 u176 u177 u178 u179 u180 u181 u182 u183 u184 u185 u186 u187 u188 u189 u190 u191 u192 u193 u194 u195 u196 u197 u198 u199 u200 u201 u202 u203 u204 u205 u206 u207 u208 u209 u210 u211 u212 u213 u214 u215 u216 u217 u218 u219 u220 u221 u222 u223 u224 u225 u226 u227 u228 u229 u230 : Value)
    (HS : Hid (StOk wr KY k inn pl ct nw pend po cp bo)) (_ : Hid (ActAt wr ba (oa + k * 4) ⟨what, place, side, ao2, n2, cap2, xs⟩)) (_ : Hid (AcOk wr ⟨what, place, side, ao2, n2, cap2, xs⟩)) (FN : Hid (Five V wr.heap.size (.bool false) (.int .i64 0) (.int .i64 0) (.bool false) (.slice none 0 0)))
    (hbV : Below wr.heap.size wr V) (_ : ba < wr.heap.size) (hKYr : KY < wr.heap.size) (_ : k < n) (_ : n2 ≤ 10) (_ : (0 : Int) ≤ (k : Int)) (_ : (k : Int) < n) (hk30 : k ≤ 30) (hL : pend.length ≤ 300) (h4 : what.tmod 4 = 3)
    (Kp : Act → World → Prop) (Qx : Exit → Act → World → Prop)
    (hK : ∀ (s4 s5 s6 s7 s8 s10 s12 s13 s14 v19 v20 v21 v22 v23 v24 v25 v26 v27 v28 v29 v30 v31 v32 v33 v34 v35 v36 v37 v38 v39 v40 v41 v42 v43 v44 v45 v46 v47 v48 v49 v50 v51 v52 v53 v54 v55 v56 v57 v58 v59 v60 v61 v62 v63 v64 v65 v66 v67 v68 v69 v70 v71 v72 v73 v74 v75 v76 v77 v78 v79 v80 v81 v82 v83 v84 v85 v86 v87 v88 v89 v90 v91 v92 v93 v94 v95 v96 v97 v98 v99 v100 v101 v102 v103 v104 v105 v106 v107 v108 v109 v110 v111 v112 v113 v114 v115 v116 v117 v118 v119 v120 v121 v122 v123 v124 v125 v126 v127 v128 v129 v130 v131 v132 v133 v134 v135 v136 v137 v138 v139 v140 v141 v142 v143 v144 v145 v146 v147 v148 v149 v150 v151 v152 v153 v154 v155 v156 v157 v158 v159 v160 v161 v162 v163 v164 v165 v166 v167 v168 v169 v170 v171 v172 v173 v174 : Value) (wx : World), SwRel KY k wr inn pl ct nw pend s4 s5 s6 s7 s8 s10 s12 wx → Kp ⟨#[Value.slice (some { block := ba, off := oa }) n cap, undef, u2, Value.pointer (some { block := KY, off := 0 }), s4, s5, s6, s7, s8, Value.int IntKind.i64 k, s10, Value.pointer (some { block := wr.heap.size, off := 0 }), s12, s13, s14, Value.slice (some { block := ba, off := oa }) n cap, Value.int IntKind.i64 n, Value.bool false, undef, v19, v20, v21, v22, v23, v24, v25, v26, v27, v28, v29, v30, v31, v32, v33, v34, v35, v36, v37, v38, v39, v40, v41, v42, v43, v44, v45, v46, v47, v48, v49, v50, v51, v52, v53, v54, v55, v56, v57, v58, v59, v60, v61, v62, v63, v64, v65, v66, v67, v68, v69, v70, v71, v72, v73, v74, v75, v76, v77, v78, v79, v80, v81, v82, v83, v84, v85, v86, v87, v88, v89, v90, v91, v92, v93, v94, v95, v96, v97, v98, v99, v100, v101, v102, v103, v104, v105, v106, v107, v108, v109, v110, v111, v112, v113, v114, v115, v116, v117, v118, v119, v120, v121, v122, v123, v124, v125, v126, v127, v128, v129, v130, v131, v132, v133, v134, v135, v136, v137, v138, v139, v140, v141, v142, v143, v144, v145, v146, v147, v148, v149, v150, v151, v152, v153, v154, v155, v156, v157, v158, v159, v160, v161, v162, v163, v164, v165, v166, v167, v168, v169, v170, v171, v172, v173, v174, u175, u176, u177, u178, u179, u180, u181, u182, u183, u184, u185, u186, u187, u188, u189, u190, u191, u192, u193, u194, u195, u196, u197, u198, u199, u200, u201, u202, u203, u204, u205, u206, u207, u208, u209, u210, u211, u212, u213, u214, u215, u216, u217, u218, u219, u220, u221, u222, u223, u224, u225, u226, u227, u228, u229, u230, undef], []⟩ wx) :
    Code.wp Try.prog blk2 (Exit.then Kp Qx) ⟨#[Value.slice (some { block := ba, off := oa }) n cap, undef, u2, Value.pointer (some { block := KY, off := 0 }), Value.bool inn, Value.int IntKind.i64 pl, Value.int IntKind.i64 ct, Value.bool nw, Value.slice po pend.length cp, Value.int IntKind.i64 k, Value.int IntKind.i64 0, Value.pointer (some { block := wr.heap.size, off := 0 }), Value.int IntKind.i64 0, u13, u14, Value.slice (some { block := ba, off := oa }) n cap, Value.int IntKind.i64 n, Value.bool false, undef, Value.int IntKind.i64 k, Value.slice (some { block := ba, off := oa }) n cap, Value.int IntKind.i64 n, Value.bool true, u23, u24, Value.slice (some { block := ba, off := oa }) n cap, Value.int IntKind.i64 k, Value.pointer (some { block := ba, off := oa + k * 4 }), Value.pointer (some { block := ba, off := oa + k * 4 + 3 }), Value.slice ao2 n2 cap2, Value.int IntKind.i64 n2, Value.bool false, u32, Value.slice (some { block := ba, off := oa }) n cap, Value.int IntKind.i64 k, Value.pointer (some { block := ba, off := oa + k * 4 }), Value.pointer (some { block := ba, off := oa + k * 4 }), Value.int IntKind.u8 what, Value.int IntKind.u8 (what.tmod 4), u39, u40, u41, u42, u43, u44, u45, u46, u47, u48, u49, u50, u51, u52, u53, u54, u55, u56, u57, u58, u59, u60, u61, u62, u63, u64, u65, u66, u67, u68, u69, u70, u71, u72, u73, u74, u75, u76, u77, u78, u79, u80, u81, u82, u83, u84, u85, u86, u87, u88, u89, u90, u91, u92, u93, u94, u95, u96, u97, u98, u99, u100, u101, u102, u103, u104, u105, u106, u107, u108, u109, u110, u111, u112, u113, u114, u115, u116, u117, u118, u119, u120, u121, u122, u123, u124, u125, u126, u127, u128, u129, u130, u131, u132, u133, u134, u135, u136, u137, u138, u139, u140, u141, u142, u143, u144, u145, u146, u147, u148, u149, u150, u151, u152, u153, u154, u155, u156, u157, u158, u159, u160, u161, u162, u163, u164, u165, u166, u167, u168, u169, u170, u171, u172, u173, u174, u175, u176, u177, u178, u179, u180, u181, u182, u183, u184, u185, u186, u187, u188, u189, u190, u191, u192, u193, u194, u195, u196, u197, u198, u199, u200, u201, u202, u203, u204, u205, u206, u207, u208, u209, u210, u211, u212, u213, u214, u215, u216, u217, u218, u219, u220, u221, u222, u223, u224, u225, u226, u227, u228, u229, u230, undef], []⟩ V := by
  conv => arg 2; whnf
  rw [h4]
  have hVn := five_lt FN.out
  have hVk : KY < V.heap.size := by omega
  have hne1 : wr.heap.size ≠ V.heap.size := by omega
  have hne2 : V.heap.size ≠ wr.heap.size := by omega
  have hF1 := HS.out.yarn.below hbV hKYr
  have c0 := fun o => (hF1.alloc hVk o).1.1
  have c1 := fun o => (hF1.alloc hVk o).1.2.1
  have c2 := fun o => (hF1.alloc hVk o).1.2.2.1
  have c3 := fun o => (hF1.alloc hVk o).1.2.2.2.1
  have c4 := fun o => (hF1.alloc hVk o).1.2.2.2.2
  cases inn
  · go_wp2_with (go_at_call 20; refine (make_out pl ct nw bo pend _ _ _ rfl (by omega) ((HS.out.lieY.below hbV).below (below1 _ _)) HS.out.vy).mono ?_; rintro e w2 ⟨rfl, hbq⟩; refine Hid.out ?_)
    have hbq2 : Below V.heap.size V w2 := (below1 V _).trans (hbq.mono (by simp))
    have HF2 := Lib.hid (FN.out.below hbq2 hVn)
    have HM2 := Lib.hid ((three_new V).below hbq (by simp))
    have hbx : Below wr.heap.size wr w2 := hbV.trans (hbq2.mono hbV.size)
    have hVw : V.heap.size < w2.heap.size := by have := hbq.size; simp at this; omega
    clear c0 c1 c2 c3 c4 hbq hF1
    obtain ⟨⟨c0, c1, c2, c3, c4⟩, ⟨f0, f1, f2, f3, f4⟩⟩ := HF2.out
    obtain ⟨⟨m0, m1, m2⟩, ⟨k0, k1, k2⟩⟩ := HM2.out
    refine Lib.hid ?_
    go_upto_if 46 with fail
    obtain ⟨W3, hW3⟩ : ∃ W3 : World, W3 = (((((((w2.setCell ⟨wr.heap.size, 0, none⟩ (.bool false)).setCell ⟨wr.heap.size, 1, none⟩ (.int .i64 0)).setCell ⟨wr.heap.size, 2, none⟩ (.int .i64 0)).setCell ⟨wr.heap.size, 3, none⟩ (.bool false)).setCell ⟨wr.heap.size, 4, none⟩ (.slice none 0 0)).setCell ⟨V.heap.size, 0, none⟩ (.int .i64 0)).setCell ⟨V.heap.size, 1, none⟩ (.bool false)).setCell ⟨V.heap.size, 2, none⟩ (.slice none 0 0) := ⟨_, rfl⟩
    rw [← hW3]
    have HF3 : Hid (Five W3 wr.heap.size (.bool false) (.int .i64 0) (.int .i64 0) (.bool false) (.slice none 0 0)) := by rw [hW3]; exact (five_set HF2.out _ _ _ _ _).below (below_sets3 (Below.refl V.heap.size _) (Nat.le_refl _) _ _ _) hVn
    have HM3 : Hid (ThreeC W3 V.heap.size (.int .i64 0) (.bool false) (.slice none 0 0)) := by rw [hW3]; exact three_set (three_sets5 HM2.out hne2 _ _ _ _ _) _ _ _
    have hbx3 : Below wr.heap.size wr W3 := by rw [hW3]; exact below_sets3 (below_sets5 hbx (Nat.le_refl _) _ _ _ _ _) hbV.size _ _ _
    have hV3 : V.heap.size < W3.heap.size := by rw [hW3]; simpa using hVw
    clear hW3 c0 c1 c2 c3 c4 f0 f1 f2 f3 f4 m0 m1 m2 k0 k1 k2 HF2 HM2 hbq2
    obtain ⟨⟨m0, m1, m2⟩, -⟩ := HM3.out
    go_wp2_with fail
    exact SwRel.of ⟨false, pl, ct, nw, pend, po, cp, 12, rfl, rfl, rfl, rfl, rfl, rfl, rfl, Lib.hid (sw_err HS.out hbx3 HF3.out (by decide)), hbx3⟩
  · go_wp2_with (go_at_call 20; refine (make_ok pl ct nw bo pend _ _ _ rfl (by omega) ((HS.out.lieY.below hbV).below (below1 _ _)) HS.out.vy (by have := HS.out.count.2; omega)).mono ?_; rintro e w2 ⟨bo2, rfl, ho2, hbq⟩; refine Hid.out ?_)
    have hbq2 : Below V.heap.size V w2 := (below1 V _).trans (hbq.mono (by simp))
    have HF2 := Lib.hid (FN.out.below hbq2 hVn)
    have HM2 := Lib.hid ((three_new V).below hbq (by simp))
    have hbx : Below wr.heap.size wr w2 := hbV.trans (hbq2.mono hbV.size)
    have hVw : V.heap.size < w2.heap.size := by have := hbq.size; simp at this; omega
    have hl2 : Lie w2 bo2 pend := by
      obtain ⟨-, ao9, cap9, hv, -, -, hl9⟩ := lie_of_owns ho2
      obtain ⟨rfl, -⟩ : bo2 = ao9 ∧ _ = cap9 := by simpa using hv
      exact hl9
    have hn2 : ∀ b o, bo2 = some ⟨b, o, none⟩ → V.heap.size < b := by
      rintro b o rfl
      have := (ho2.lt b rfl).1
      simp at this
      omega
    clear ho2
    clear c0 c1 c2 c3 c4 hbq hF1
    obtain ⟨⟨c0, c1, c2, c3, c4⟩, ⟨f0, f1, f2, f3, f4⟩⟩ := HF2.out
    obtain ⟨⟨m0, m1, m2⟩, ⟨k0, k1, k2⟩⟩ := HM2.out
    refine Lib.hid ?_
    go_upto_if 46 with fail
    obtain ⟨W3, hW3⟩ : ∃ W3 : World, W3 = (((((((w2.setCell ⟨wr.heap.size, 0, none⟩ (.bool true)).setCell ⟨wr.heap.size, 1, none⟩ (.int .i64 pl)).setCell ⟨wr.heap.size, 2, none⟩ (.int .i64 (ct + 1))).setCell ⟨wr.heap.size, 3, none⟩ (.bool false)).setCell ⟨wr.heap.size, 4, none⟩ (.slice none 0 0)).setCell ⟨V.heap.size, 0, none⟩ (.int .i64 ct)).setCell ⟨V.heap.size, 1, none⟩ (.bool nw)).setCell ⟨V.heap.size, 2, none⟩ (.slice bo2 (List.length pend) (List.length pend)) := ⟨_, rfl⟩
    rw [← hW3]
    have HF3 : Hid (Five W3 wr.heap.size (.bool true) (.int .i64 pl) (.int .i64 (ct + 1)) (.bool false) (.slice none 0 0)) := by rw [hW3]; exact (five_set HF2.out _ _ _ _ _).below (below_sets3 (Below.refl V.heap.size _) (Nat.le_refl _) _ _ _) hVn
    have HM3 : Hid (ThreeC W3 V.heap.size (.int .i64 ct) (.bool nw) (.slice bo2 (List.length pend) (List.length pend))) := by rw [hW3]; exact three_set (three_sets5 HM2.out hne2 _ _ _ _ _) _ _ _
    have hbx3 : Below wr.heap.size wr W3 := by rw [hW3]; exact below_sets3 (below_sets5 hbx (Nat.le_refl _) _ _ _ _ _) hbV.size _ _ _
    have hV3 : V.heap.size < W3.heap.size := by rw [hW3]; simpa using hVw
    have HLB : Hid (Lie W3 bo2 pend) := by
      rw [hW3]
      exact lie_sets3 (lie_sets5 hl2 (fun b o e => by have := hn2 b o e; omega) _ _ _ _ _) (fun b o e => by have := hn2 b o e; omega) _ _ _
    have HLP : Hid (Lie W3 po pend) := Lib.hid (HS.out.lieP.below hbx3)
    have hwr : IntKind.i64.wrap (ct + 1) = ct + 1 := by rw [IntKind.wrap_i64]; have := HS.out.count; omega
    clear hl2 hn2
    clear hW3 c0 c1 c2 c3 c4 f0 f1 f2 f3 f4 m0 m1 m2 k0 k1 k2 HF2 HM2 hbq2
    go_wp2_with fail
    refine rgR [some 60, some 61, some 62, some 63, some 64, some 65, some 66, some 67, some 68, some 69, some 70, some 71, some 72, some 73, some 74, some 75, some 76, some 77, some 78, some 79, some 80] (psi21 ct nw pend bo2 po cp V.heap.size W3.heap.size) (fun w' => Below W3.heap.size W3 w') (relA 17 W3.heap.size) (by kernel_rfl) (by kernel_rfl) (by kernel_rfl) (fun i j v w w' hji hI hp hr => by
      rcases hr with ⟨_, hb⟩ | ⟨rfl, _, hs⟩
      · exact psi21_below ct nw pend bo2 po cp V.heap.size W3.heap.size j v w w' hp hb
      · exact psi21_other ct nw pend bo2 po cp V.heap.size W3.heap.size j v w w' hji hs hp) (invA_stab 17) (fun i o ho fa w1 hs hout hI hdep hold => ?_) ?_ (Below.refl _ _).drew
    · have hlt9 := (Array.getElem?_eq_some_iff.1 ho).1
      have M1 := HM3.out.below hI hV3
      have m0 := M1.1.1
      have m1 := M1.1.2.1
      have m2 := M1.1.2.2
      have LB1 := HLB.out.below hI
      have LP1 := HLP.out.below hI
      match i, ho with
      | 0, ho =>
        obtain rfl := Option.some.inj ho
        refine .inl ⟨rfl, fun K hK => ?_⟩
        exact fa47_0 rfl ((hout 14 rfl).trans rfl) (hK _ _ (.inl ⟨by decide, Below.refl _ _⟩) rfl)
      | 1, ho =>
        obtain rfl := Option.some.inj ho
        have q0 : fa.tmps.getD 60 undef = .pointer (some ⟨V.heap.size, 0, none⟩) := hdep ⟨0, .data⟩ (by simp) rfl _ rfl
        refine .inl ⟨rfl, fun K hK => ?_⟩
        exact ld3 rfl q0 m0 (hK _ _ (.inl ⟨by decide, Below.refl _ _⟩) rfl)
      | 2, ho =>
        obtain rfl := Option.some.inj ho
        refine .inl ⟨rfl, fun K hK => ?_⟩
        exact st_move rfl ((hout 6 rfl).trans rfl) (hK _ _ (.inl ⟨by decide, Below.refl _ _⟩) rfl)
      | 3, ho =>
        obtain rfl := Option.some.inj ho
        have q1 : fa.tmps.getD 61 undef = .int .i64 ct := hdep ⟨1, .data⟩ (by simp) rfl _ rfl
        have q2 : fa.tmps.getD 62 undef = .int .i64 ct := hdep ⟨2, .data⟩ (by simp) rfl _ rfl
        refine .inl ⟨rfl, fun K hK => ?_⟩
        exact st_neq_3 rfl q1 q2 (hK _ _ (.inl ⟨by decide, Below.refl _ _⟩) (congrArg Value.bool (by simp)))
      | 4, ho =>
        obtain rfl := Option.some.inj ho
        have q3 : fa.tmps.getD 63 undef = .bool false := hdep ⟨3, .data⟩ (by simp) rfl _ rfl
        refine .inl ⟨rfl, fun K hK => ?_⟩
        exact st_move rfl q3 (hK _ _ (.inl ⟨by decide, Below.refl _ _⟩) rfl)
      | 5, ho =>
        obtain rfl := Option.some.inj ho
        have qg : fa.tmps.getD 64 undef = .bool false := hdep ⟨4, .guard⟩ (by simp) rfl _ rfl
        refine .inl ⟨wanted_of (j := 4) (d := 64) rfl rfl rfl (by rw [hs]; exact of_decide_eq_true (by kernel_rfl)) qg, fun K hK => ?_⟩
        exact fa47_1 rfl ((hout 14 rfl).trans rfl) (hK _ _ (.inl ⟨by decide, Below.refl _ _⟩) rfl)
      | 6, ho =>
        obtain rfl := Option.some.inj ho
        have q5 : fa.tmps.getD 65 undef = .pointer (some ⟨V.heap.size, 1, none⟩) := hdep ⟨5, .data⟩ (by simp) rfl _ rfl
        have qg : fa.tmps.getD 64 undef = .bool false := hdep ⟨4, .guard⟩ (by simp) rfl _ rfl
        refine .inl ⟨wanted_of (j := 4) (d := 64) rfl rfl rfl (by rw [hs]; exact of_decide_eq_true (by kernel_rfl)) qg, fun K hK => ?_⟩
        exact ld4 rfl q5 m1 (hK _ _ (.inl ⟨by decide, Below.refl _ _⟩) rfl)
      | 7, ho =>
        obtain rfl := Option.some.inj ho
        have qg : fa.tmps.getD 64 undef = .bool false := hdep ⟨4, .guard⟩ (by simp) rfl _ rfl
        refine .inl ⟨wanted_of (j := 4) (d := 64) rfl rfl rfl (by rw [hs]; exact of_decide_eq_true (by kernel_rfl)) qg, fun K hK => ?_⟩
        exact st_move rfl ((hout 7 rfl).trans rfl) (hK _ _ (.inl ⟨by decide, Below.refl _ _⟩) rfl)
      | 8, ho =>
        obtain rfl := Option.some.inj ho
        have q6 : fa.tmps.getD 66 undef = .bool nw := hdep ⟨6, .data⟩ (by simp) rfl _ rfl
        have q7 : fa.tmps.getD 67 undef = .bool nw := hdep ⟨7, .data⟩ (by simp) rfl _ rfl
        have qg : fa.tmps.getD 64 undef = .bool false := hdep ⟨4, .guard⟩ (by simp) rfl _ rfl
        refine .inl ⟨wanted_of (j := 4) (d := 64) rfl rfl rfl (by rw [hs]; exact of_decide_eq_true (by kernel_rfl)) qg, fun K hK => ?_⟩
        exact st_neq_4 rfl q6 q7 (hK _ _ (.inl ⟨by decide, Below.refl _ _⟩) (congrArg Value.bool (by simp)))
      | 9, ho =>
        obtain rfl := Option.some.inj ho
        have q4 : fa.tmps.getD 64 undef = .bool false := hdep ⟨4, .data⟩ (by simp) rfl _ rfl
        have q8 : fa.tmps.getD 68 undef = .bool false := hdep ⟨8, .data⟩ (by simp) rfl _ rfl
        refine .inl ⟨rfl, fun K hK => ?_⟩
        exact st_or rfl q4 (fun _ => q8) (hK _ _ (.inl ⟨by decide, Below.refl _ _⟩) rfl)
      | 10, ho =>
        obtain rfl := Option.some.inj ho
        have q9 : fa.tmps.getD 69 undef = .bool false := hdep ⟨9, .data⟩ (by simp) rfl _ rfl
        refine .inl ⟨rfl, fun K hK => ?_⟩
        exact st_move rfl q9 (hK _ _ (.inl ⟨by decide, Below.refl _ _⟩) rfl)
      | 11, ho =>
        obtain rfl := Option.some.inj ho
        have qg : fa.tmps.getD 70 undef = .bool false := hdep ⟨10, .guard⟩ (by simp) rfl _ rfl
        refine .inl ⟨wanted_of (j := 10) (d := 70) rfl rfl rfl (by rw [hs]; exact of_decide_eq_true (by kernel_rfl)) qg, fun K hK => ?_⟩
        exact fa47_2 rfl ((hout 14 rfl).trans rfl) (hK _ _ (.inl ⟨by decide, Below.refl _ _⟩) rfl)
      | 12, ho =>
        obtain rfl := Option.some.inj ho
        have q11 : fa.tmps.getD 71 undef = .pointer (some ⟨V.heap.size, 2, none⟩) := hdep ⟨11, .data⟩ (by simp) rfl _ rfl
        have qg : fa.tmps.getD 70 undef = .bool false := hdep ⟨10, .guard⟩ (by simp) rfl _ rfl
        refine .inl ⟨wanted_of (j := 10) (d := 70) rfl rfl rfl (by rw [hs]; exact of_decide_eq_true (by kernel_rfl)) qg, fun K hK => ?_⟩
        exact ld23 rfl q11 m2 (hK _ _ (.inl ⟨by decide, Below.refl _ _⟩) rfl)
      | 13, ho =>
        obtain rfl := Option.some.inj ho
        have qg : fa.tmps.getD 70 undef = .bool false := hdep ⟨10, .guard⟩ (by simp) rfl _ rfl
        refine .inl ⟨wanted_of (j := 10) (d := 70) rfl rfl rfl (by rw [hs]; exact of_decide_eq_true (by kernel_rfl)) qg, fun K hK => ?_⟩
        exact st_move rfl ((hout 8 rfl).trans rfl) (hK _ _ (.inl ⟨by decide, Below.refl _ _⟩) rfl)
      | 14, ho =>
        obtain rfl := Option.some.inj ho
        have q13 : fa.tmps.getD 73 undef = .slice po (List.length pend) cp := hdep ⟨13, .data⟩ (by simp) rfl _ rfl
        have qg : fa.tmps.getD 70 undef = .bool false := hdep ⟨10, .guard⟩ (by simp) rfl _ rfl
        refine .inl ⟨wanted_of (j := 10) (d := 70) rfl rfl rfl (by rw [hs]; exact of_decide_eq_true (by kernel_rfl)) qg, fun K hK => ?_⟩
        exact len23 rfl q13 (hK _ _ (.inl ⟨by decide, Below.refl _ _⟩) rfl)
      | 15, ho =>
        obtain rfl := Option.some.inj ho
        have q14 : fa.tmps.getD 74 undef = .int .i64 ((List.length pend) : Int) := hdep ⟨14, .data⟩ (by simp) rfl _ rfl
        have qg : fa.tmps.getD 70 undef = .bool false := hdep ⟨10, .guard⟩ (by simp) rfl _ rfl
        refine .inl ⟨wanted_of (j := 10) (d := 70) rfl rfl rfl (by rw [hs]; exact of_decide_eq_true (by kernel_rfl)) qg, fun K hK => ?_⟩
        exact st_mk0 rfl q14 (by omega) (hK _ _ (.inl ⟨by decide, below1 _ _⟩) ⟨_, rfl, World.ownsRow_made (e := 33) (size := 4) w1 (rowNew (List.length pend)) (List.length pend) hI.size (by simp [maxLen]; omega) (rowNew_size _)⟩)
      | 16, ho =>
        obtain rfl := Option.some.inj ho
        have qg : fa.tmps.getD 70 undef = .bool false := hdep ⟨10, .guard⟩ (by simp) rfl _ rfl
        refine .inl ⟨wanted_of (j := 10) (d := 70) rfl rfl rfl (by rw [hs]; exact of_decide_eq_true (by kernel_rfl)) qg, fun K hK => ?_⟩
        exact st_move rfl ((hout 8 rfl).trans rfl) (hK _ _ (.inl ⟨by decide, Below.refl _ _⟩) rfl)
      | 17, ho =>
        obtain rfl := Option.some.inj ho
        have q15 : ∃ g, fa.tmps.getD 75 undef = .slice (some ⟨g, 0, none⟩) 0 (List.length pend) ∧ OwnZ w1 W3.heap.size g (List.length pend) := hdep ⟨15, .data⟩ (by simp) rfl _ rfl
        have q16 : fa.tmps.getD 76 undef = .slice po (List.length pend) cp := hdep ⟨16, .data⟩ (by simp) rfl _ rfl
        have qg : fa.tmps.getD 70 undef = .bool false := hdep ⟨10, .guard⟩ (by simp) rfl _ rfl
        refine .inl ⟨wanted_of (j := 10) (d := 70) rfl rfl rfl (by rw [hs]; exact of_decide_eq_true (by kernel_rfl)) qg, fun K hK => ?_⟩
        obtain ⟨g, q15, hz⟩ := q15
        exact st_append rfl q15 hz q16 rfl LP1 HS.out.room hI.size (fun w' hb hl hs => hK _ _ (.inr ⟨rfl, hb, hs⟩) ⟨g, rfl, hl⟩)
      | 18, ho =>
        obtain rfl := Option.some.inj ho
        have q12 : fa.tmps.getD 72 undef = .slice bo2 (List.length pend) (List.length pend) := hdep ⟨12, .data⟩ (by simp) rfl _ rfl
        have q17 : ∃ g, fa.tmps.getD 77 undef = .slice (some ⟨g, 0, none⟩) (List.length pend) (List.length pend) ∧ Lie w1 (some ⟨g, 0, none⟩) pend := hdep ⟨17, .data⟩ (by simp) rfl _ rfl
        have qg : fa.tmps.getD 70 undef = .bool false := hdep ⟨10, .guard⟩ (by simp) rfl _ rfl
        refine .inl ⟨wanted_of (j := 10) (d := 70) rfl rfl rfl (by rw [hs]; exact of_decide_eq_true (by kernel_rfl)) qg, fun K hK => ?_⟩
        obtain ⟨g, q17, hlg⟩ := q17
        exact step_calls rfl enter13 (vs := #[.slice bo2 (List.length pend) (List.length pend), .slice (some ⟨g, 0, none⟩) (List.length pend) (List.length pend)]) (vals2 q12 q17) ((same_yes _ _ pend _ _ _ rfl (by omega) LB1 hlg).mono fun e w' hh => by
          obtain ⟨rfl, hb⟩ := hh
          exact ⟨_, rfl, hK _ _ (.inl ⟨by decide, hb⟩) rfl⟩)
      | 19, ho =>
        obtain rfl := Option.some.inj ho
        have q18 : fa.tmps.getD 78 undef = .int .i64 1 := hdep ⟨18, .data⟩ (by simp) rfl _ rfl
        have qg : fa.tmps.getD 70 undef = .bool false := hdep ⟨10, .guard⟩ (by simp) rfl _ rfl
        refine .inl ⟨wanted_of (j := 10) (d := 70) rfl rfl rfl (by rw [hs]; exact of_decide_eq_true (by kernel_rfl)) qg, fun K hK => ?_⟩
        exact st_eql_3 rfl q18 rfl (hK _ _ (.inl ⟨by decide, Below.refl _ _⟩) (congrArg Value.bool (by decide)))
      | 20, ho =>
        obtain rfl := Option.some.inj ho
        have q10 : fa.tmps.getD 70 undef = .bool false := hdep ⟨10, .data⟩ (by simp) rfl _ rfl
        have q19 : fa.tmps.getD 79 undef = .bool false := hdep ⟨19, .data⟩ (by simp) rfl _ rfl
        refine .inl ⟨rfl, fun K hK => ?_⟩
        exact st_or rfl q10 (fun _ => q19) (hK _ _ (.inl ⟨by decide, Below.refl _ _⟩) rfl)
      | i + 21, ho => exact absurd (show i + 21 < 21 from hlt9) (by omega)
    · intro a2 w5 hs hd hout hI hall
      obtain ⟨tmps, defers⟩ := a2
      have e_80 : tmps.getD 80 undef = .bool false := hall 20 _ rfl
      simp only at hs hd hout
      have ef := frameAt [some 60, some 61, some 62, some 63, some 64, some 65, some 66, some 67, some 68, some 69, some 70, some 71, some 72, some 73, some 74, some 75, some 76, some 77, some 78, some 79, some 80] _ tmps hs hout
      obtain ⟨sv21, hu⟩ : ∃ u : Nat → Value, u = fun s => tmps.getD s undef := ⟨_, rfl⟩
      have eu_80 : sv21 80 = .bool false := by rw [hu]; exact e_80
      rw [← hu] at ef
      have ef2 : tmps = #[Value.slice (some { block := ba, off := oa }) n cap, undef, u2, Value.pointer (some { block := KY, off := 0 }), Value.bool true, Value.int IntKind.i64 pl, Value.int IntKind.i64 ct, Value.bool nw, Value.slice po pend.length cp, Value.int IntKind.i64 k, Value.int IntKind.i64 0, Value.pointer (some { block := wr.heap.size, off := 0 }), Value.int IntKind.i64 0, u13, Value.pointer (some { block := V.heap.size, off := 0 }), Value.slice (some { block := ba, off := oa }) n cap, Value.int IntKind.i64 n, Value.bool false, undef, Value.int IntKind.i64 k, Value.slice (some { block := ba, off := oa }) n cap, Value.int IntKind.i64 n, Value.bool true, u23, u24, Value.slice (some { block := ba, off := oa }) n cap, Value.int IntKind.i64 k, Value.pointer (some { block := ba, off := oa + k * 4 }), Value.pointer (some { block := ba, off := oa + k * 4 + 3 }), Value.slice ao2 n2 cap2, Value.int IntKind.i64 n2, Value.bool false, u32, Value.slice (some { block := ba, off := oa }) n cap, Value.int IntKind.i64 k, Value.pointer (some { block := ba, off := oa + k * 4 }), Value.pointer (some { block := ba, off := oa + k * 4 }), Value.int IntKind.u8 what, Value.int IntKind.u8 3, Value.tuple #[Value.agg #[Value.bool true, Value.int IntKind.i64 pl, Value.int IntKind.i64 (ct + 1), Value.bool false, Value.slice none 0 0], Value.agg #[Value.int IntKind.i64 ct, Value.bool nw, Value.slice bo2 pend.length pend.length], Value.int IntKind.i64 0], Value.agg #[Value.bool true, Value.int IntKind.i64 pl, Value.int IntKind.i64 ct, Value.bool nw, Value.slice bo pend.length pend.length], Value.tuple #[Value.agg #[Value.bool true, Value.int IntKind.i64 pl, Value.int IntKind.i64 (ct + 1), Value.bool false, Value.slice none 0 0], Value.agg #[Value.int IntKind.i64 ct, Value.bool nw, Value.slice bo2 pend.length pend.length], Value.int IntKind.i64 0], Value.agg #[Value.bool true, Value.int IntKind.i64 pl, Value.int IntKind.i64 (ct + 1), Value.bool false, Value.slice none 0 0], Value.agg #[Value.int IntKind.i64 ct, Value.bool nw, Value.slice bo2 pend.length pend.length], Value.int IntKind.i64 0, Value.bool true, Value.bool false, u47, u48, u49, u50, u51, u52, u53, u54, u55, u56, u57, u58, u59, sv21 60, sv21 61, sv21 62, sv21 63, sv21 64, sv21 65, sv21 66, sv21 67, sv21 68, sv21 69, sv21 70, sv21 71, sv21 72, sv21 73, sv21 74, sv21 75, sv21 76, sv21 77, sv21 78, sv21 79, sv21 80, u81, u82, Value.bool false, Value.bool false, u85, u86, u87, u88, u89, u90, u91, u92, u93, u94, u95, u96, u97, u98, u99, u100, u101, u102, u103, u104, u105, u106, u107, u108, u109, Value.bool false, Value.bool false, u112, u113, u114, u115, u116, u117, Value.bool false, Value.bool false, u120, u121, u122, u123, u124, u125, u126, u127, u128, u129, u130, u131, u132, u133, u134, u135, u136, u137, u138, u139, u140, u141, u142, u143, u144, u145, u146, u147, u148, u149, u150, u151, u152, u153, u154, u155, u156, u157, u158, u159, u160, u161, u162, u163, u164, u165, u166, u167, u168, u169, u170, u171, u172, u173, u174, u175, u176, u177, u178, u179, u180, u181, u182, u183, u184, u185, u186, u187, u188, u189, u190, u191, u192, u193, u194, u195, u196, u197, u198, u199, u200, u201, u202, u203, u204, u205, u206, u207, u208, u209, u210, u211, u212, u213, u214, u215, u216, u217, u218, u219, u220, u221, u222, u223, u224, u225, u226, u227, u228, u229, u230, undef] := ef
      subst hd
      rw [eu_80] at ef2
      rw [ef2]
      clear ef ef2 hu hs hout hall e_80 eu_80
      have hb5 : Below wr.heap.size wr w5 := hbx3.trans (hI.mono hbx3.size)
      have HF5 := Lib.hid (HF3.out.below hI (five_lt HF3.out))
      go_wp2_with fail
      exact SwRel.of ⟨true, pl, ct + 1, false, [], none, 0, 0, rfl, rfl, rfl, rfl, rfl, rfl, rfl, Lib.hid (sw_make hk30 HS.out HF5.out), hb5⟩

end Go.Proofs.Ytikdhdikaihenaa
