import Derived.Test.YtikdhdikaihenaaActs0
import Derived.Test.YtikdhdikaihenaaActs1
import Derived.Test.YtikdhdikaihenaaActs2
import Derived.Test.YtikdhdikaihenaaActs3
import Derived.Test.YtikdhdikaihenaaLawReduce
import Derived.Deep.Cut
import Derived.Deep.CutRange
import Derived.Deep.CutBlock
namespace Go.Proofs.Ytikdhdikaihenaa
open Go.RowKit Go.Sort

def psi55 (pl1 : Int) (ct1 : Int) (inn1 : Bool) (nw1 : Bool) (pend1 : List Ps) (bo1 : Option Addr) (po1 : Option Addr) (cp1 : Nat) (KY : Nat) (B : Nat) : Nat → Value → World → Prop
  | 0, v, _ => v = .agg #[.bool inn1, .int .i64 pl1, .int .i64 ct1, .bool nw1, .slice bo1 (List.length pend1) (List.length pend1)]
  | 1, v, _ => v = .int .i64 0
  | 2, v, _ => v = .bool false
  | 3, v, _ => v = .bool false
  | 4, v, _ => v = .pointer (some ⟨KY, 0, none⟩)
  | 5, v, _ => v = .bool inn1
  | 6, v, _ => v = .bool inn1
  | 7, v, _ => v = .bool false
  | 8, v, _ => v = .bool false
  | 9, v, _ => v = .bool false
  | 10, v, _ => v = .pointer (some ⟨KY, 1, none⟩)
  | 11, v, _ => v = .int .i64 pl1
  | 12, v, _ => v = .int .i64 pl1
  | 13, v, _ => v = .bool false
  | 14, v, _ => v = .bool false
  | 15, v, _ => v = .bool false
  | 16, v, _ => v = .pointer (some ⟨KY, 2, none⟩)
  | 17, v, _ => v = .int .i64 ct1
  | 18, v, _ => v = .int .i64 ct1
  | 19, v, _ => v = .bool false
  | 20, v, _ => v = .bool false
  | 21, v, _ => v = .bool false
  | 22, v, _ => v = .pointer (some ⟨KY, 3, none⟩)
  | 23, v, _ => v = .bool nw1
  | 24, v, _ => v = .bool nw1
  | 25, v, _ => v = .bool false
  | 26, v, _ => v = .bool false
  | 27, v, _ => v = .bool false
  | 28, v, _ => v = .pointer (some ⟨KY, 4, none⟩)
  | 29, v, _ => v = .slice bo1 (List.length pend1) (List.length pend1)
  | 30, v, _ => v = .slice po1 (List.length pend1) cp1
  | 31, v, _ => v = .int .i64 ((List.length pend1) : Int)
  | 32, v, w => ∃ g, v = .slice (some ⟨g, 0, none⟩) 0 (List.length pend1) ∧ OwnZ w B g (List.length pend1)
  | 33, v, _ => v = .slice po1 (List.length pend1) cp1
  | 34, v, w => ∃ g, v = .slice (some ⟨g, 0, none⟩) (List.length pend1) (List.length pend1) ∧ Lie w (some ⟨g, 0, none⟩) pend1
  | 35, v, _ => v = .int .i64 1
  | 36, v, _ => v = .bool false
  | 37, v, _ => v = .bool false
  | _, _, _ => True
theorem psi55_below (pl1 : Int) (ct1 : Int) (inn1 : Bool) (nw1 : Bool) (pend1 : List Ps) (bo1 : Option Addr) (po1 : Option Addr) (cp1 : Nat) (KY : Nat) (B : Nat) (i : Nat) (v : Value) (w w' : World) (h : psi55 pl1 ct1 inn1 nw1 pend1 bo1 po1 cp1 KY B i v w) (hb : Below w.heap.size w w') : psi55 pl1 ct1 inn1 nw1 pend1 bo1 po1 cp1 KY B i v w' := by
  match i, h with
  | 0, h => exact h
  | 1, h => exact h
  | 2, h => exact h
  | 3, h => exact h
  | 4, h => exact h
  | 5, h => exact h
  | 6, h => exact h
  | 7, h => exact h
  | 8, h => exact h
  | 9, h => exact h
  | 10, h => exact h
  | 11, h => exact h
  | 12, h => exact h
  | 13, h => exact h
  | 14, h => exact h
  | 15, h => exact h
  | 16, h => exact h
  | 17, h => exact h
  | 18, h => exact h
  | 19, h => exact h
  | 20, h => exact h
  | 21, h => exact h
  | 22, h => exact h
  | 23, h => exact h
  | 24, h => exact h
  | 25, h => exact h
  | 26, h => exact h
  | 27, h => exact h
  | 28, h => exact h
  | 29, h => exact h
  | 30, h => exact h
  | 31, h => exact h
  | 32, h => exact (by obtain ⟨g, h1, h2⟩ := h; exact ⟨g, h1, h2.below hb⟩)
  | 33, h => exact h
  | 34, h => exact (by obtain ⟨g, h1, h2⟩ := h; exact ⟨g, h1, h2.below hb⟩)
  | 35, h => exact h
  | 36, h => exact h
  | 37, h => exact h
  | i + 38, _ => exact trivial
theorem psi55_other (pl1 : Int) (ct1 : Int) (inn1 : Bool) (nw1 : Bool) (pend1 : List Ps) (bo1 : Option Addr) (po1 : Option Addr) (cp1 : Nat) (KY : Nat) (B : Nat) (i : Nat) (v : Value) (w w' : World) (hne : i ≠ 34) (hs : ∀ g' n', OwnZ w B g' n' → OwnZ w' B g' n') (h : psi55 pl1 ct1 inn1 nw1 pend1 bo1 po1 cp1 KY B i v w) : psi55 pl1 ct1 inn1 nw1 pend1 bo1 po1 cp1 KY B i v w' := by
  match i, h with
  | 0, h => exact h
  | 1, h => exact h
  | 2, h => exact h
  | 3, h => exact h
  | 4, h => exact h
  | 5, h => exact h
  | 6, h => exact h
  | 7, h => exact h
  | 8, h => exact h
  | 9, h => exact h
  | 10, h => exact h
  | 11, h => exact h
  | 12, h => exact h
  | 13, h => exact h
  | 14, h => exact h
  | 15, h => exact h
  | 16, h => exact h
  | 17, h => exact h
  | 18, h => exact h
  | 19, h => exact h
  | 20, h => exact h
  | 21, h => exact h
  | 22, h => exact h
  | 23, h => exact h
  | 24, h => exact h
  | 25, h => exact h
  | 26, h => exact h
  | 27, h => exact h
  | 28, h => exact h
  | 29, h => exact h
  | 30, h => exact h
  | 31, h => exact h
  | 32, h => exact (by obtain ⟨g, h1, h2⟩ := h; exact ⟨g, h1, hs _ _ h2⟩)
  | 33, h => exact h
  | 34, _ => exact absurd rfl hne
  | 35, h => exact h
  | 36, h => exact h
  | 37, h => exact h
  | i + 38, _ => exact trivial

set_option maxRecDepth 100000 in
set_option maxHeartbeats 8000000 in
theorem acts_core (ao : Option Addr) (acts : List Ac) (n cap : Nat) (w : World) (hn : n = acts.length) (hm : n ≤ 30) (hl : LieAct w ao acts) :
    Calls Try.prog 5 #[.slice ao n cap] w fun e w' => e = .returned (.bool true) ∧ Below w.heap.size w w' := by
  have HN := Lib.hid hn
  have HL := Lib.hid hl
  clear hn hl
  have g1 : ¬ ((30 : Int) < n) := by omega
  go_enter Try.func5, Try.ntmps5
  go_wp2_with fail
  obtain ⟨W0, hW0⟩ : ∃ W0 : World, W0 = w.alloc (.cells #[.bool false, .int .i64 0, .int .i64 0, .bool false, .slice none 0 0] 38) := ⟨_, rfl⟩
  rw [← hW0]
  have F0 : Five W0 w.heap.size (.bool false) (.int .i64 0) (.int .i64 0) (.bool false) (.slice none 0 0) := by rw [hW0]; exact new38 w
  have hb0 : Below w.heap.size w W0 := by rw [hW0]; exact below1 _ _
  obtain ⟨KY, hKY⟩ : ∃ K, K = w.heap.size := ⟨_, rfl⟩
  have hKY0 : KY < W0.heap.size := by rw [hW0, hKY]; simp
  rw [← hKY] at F0 hb0 ⊢
  have HB0 := Lib.hid hb0
  have HF0 := Lib.hid F0
  have HKY := Lib.hid hKY
  clear hW0 F0 hb0 hKY
  go_loopg [4, 5, 6, 7, 8, 9] (n + 1) (fun g s4 s5 s6 s7 s8 s9 wr => ∃ k inn pl ct nw pend po cp bo, k ≤ n ∧ g = n + 1 - k ∧ s9 = .int .i64 k ∧ s4 = .bool inn ∧ s5 = .int .i64 pl ∧ s6 = .int .i64 ct ∧ s7 = .bool nw ∧ s8 = .slice po (List.length pend) cp ∧ Hid (StOk wr KY k inn pl ct nw pend po cp bo) ∧ Below KY w wr)
  case atStart => exact ⟨0, false, 0, 0, false, [], none, 0, none, by omega, rfl, rfl, rfl, rfl, rfl, rfl, rfl, Lib.hid ⟨HF0.out, Lie.nil _ _, (by rintro b o ⟨⟩), Lie.nil _ _, (by rintro b o ⟨⟩), fun _ => rfl, ⟨by omega, by simp⟩, by omega, by simp⟩, HB0.out⟩
  case round =>
    obtain ⟨k, inn, pl, ct, nw, pend, po, cp, bo, hk, hg, rfl, rfl, rfl, rfl, rfl, rfl, HS, hb⟩ := hrel
    have HM := Lib.hid hg
    clear hg
    have hsz := hb.size
    by_cases hlt : k < n
    · obtain ⟨ba, oa, act, rfl, hba, hget, hat, hok⟩ := LieAct.at (HL.out.below (by rw [← HKY.out]; exact hb)) (i := k) (by rw [← HN.out]; exact hlt)
      obtain ⟨what, place, side, ao2, n2, cap2, xs⟩ := act
      have HOK := Lib.hid hok
      have HAT := Lib.hid hat
      have hKYr : KY < wr.heap.size := World.block_lt_of_cell? _ _ HS.out.yarn.1.1
      clear hget hok
      obtain ⟨a0, a1, a2, a3⟩ := hat
      simp only at a0 a1 a2 a3
      have b0 : (0 : Int) ≤ (k : Int) := by omega
      have b9 : (k : Int) < n := by omega
      by_cases h10 : n2 ≤ 10
      · have g2 : ¬ ((10 : Int) < n2) := by omega
        have q0 := fun o => (HAT.out.below (below1 wr o) hba).1
        have q1 := fun o => (HAT.out.below (below1 wr o) hba).2.1
        have q2 := fun o => (HAT.out.below (below1 wr o) hba).2.2.1
        have q3 := fun o => (HAT.out.below (below1 wr o) hba).2.2.2
        simp only at q0 q1 q2 q3
        go_upto_block 2 with fail
        obtain ⟨V, hV⟩ : ∃ V : World, V = wr.alloc (.cells #[.bool false, .int .i64 0, .int .i64 0, .bool false, .slice none 0 0] 38) := ⟨_, rfl⟩
        rw [← hV]
        have hfn := new38 wr
        rw [← hV] at hfn
        have FN := Lib.hid hfn
        have hbV : Below wr.heap.size wr V := by rw [hV]; exact below1 _ _
        clear hV hfn q0 q1 q2 q3 a0 a1 a2 a3
        go_cut [4, 5, 6, 7, 8, 10, 12, 13, 14] from 19 to 174 (fun s4 s5 s6 s7 s8 s10 s12 _ _ wx => ∃ inn1 pl1 ct1 nw1 pend1 po1 cp1 ev, s4 = .bool inn1 ∧ s5 = .int .i64 pl1 ∧ s6 = .int .i64 ct1 ∧ s7 = .bool nw1 ∧ s8 = .slice po1 (List.length pend1) cp1 ∧ s10 = .int .i64 ev ∧ s12 = .int .i64 ev ∧ Hid (SwOk wx KY wr.heap.size k inn pl ct nw pend inn1 pl1 ct1 nw1 pend1 po1 cp1 ev) ∧ Below wr.heap.size wr wx)
        case first =>
          have h4 : what.tmod 4 = 0 ∨ what.tmod 4 = 1 ∨ what.tmod 4 = 2 ∨ what.tmod 4 = 3 := by
            have := HOK.out.2.2.2.1.1
            simp only at this
            rw [Int.tmod_eq_emod_of_nonneg this]
            omega
          have hk30 : k ≤ 30 := by omega
          have hL : pend.length ≤ 300 := by have := HS.out.len; omega
          rcases h4 with h4 | h4 | h4 | h4
          · refine acts_case0 ba oa n cap k KY inn pl ct nw pend po cp bo wr V what place side ao2 n2 cap2 xs _ _ _ _ _ _ _ _ _ _ _ _ _ _ _ _ _ _ _ _ _ _ _ _ _ _ _ _ _ _ _ _ _ _ _ _ _ _ _ _ _ _ _ _ _ _ _ _ _ _ _ _ _ _ _ _ _ _ _ _ _ _ _ _ _ _ _ _ _ _ _ _ _ _ _ _ _ _ _ _ _ _ _ _ _ _ _ _ _ _ _ _ _ _ _ _ _ _ _ _ _ _ _ _ _ _ _ _ _ _ _ _ _ _ _ _ _ _ _ _ _ _ _ _ _ _ _ _ _ _ _ _ _ _ _ _ _ _ _ _ _ _ _ _ _ _ _ _ _ _ _ _ _ _ _ _ _ _ _ _ _ _ _ _ _ _ _ _ _ _ _ _ _ _ _ _ _ _ _ _ _ _ _ _ _ _ _ _ _ _ _ _ _ _ _ _ _ _ HS HAT HOK FN hbV hba hKYr hlt h10 b0 b9 hk30 hL h4 _ _ ?_
            intro s4 s5 s6 s7 s8 s10 s12 s13 s14 v19 v20 v21 v22 v23 v24 v25 v26 v27 v28 v29 v30 v31 v32 v33 v34 v35 v36 v37 v38 v39 v40 v41 v42 v43 v44 v45 v46 v47 v48 v49 v50 v51 v52 v53 v54 v55 v56 v57 v58 v59 v60 v61 v62 v63 v64 v65 v66 v67 v68 v69 v70 v71 v72 v73 v74 v75 v76 v77 v78 v79 v80 v81 v82 v83 v84 v85 v86 v87 v88 v89 v90 v91 v92 v93 v94 v95 v96 v97 v98 v99 v100 v101 v102 v103 v104 v105 v106 v107 v108 v109 v110 v111 v112 v113 v114 v115 v116 v117 v118 v119 v120 v121 v122 v123 v124 v125 v126 v127 v128 v129 v130 v131 v132 v133 v134 v135 v136 v137 v138 v139 v140 v141 v142 v143 v144 v145 v146 v147 v148 v149 v150 v151 v152 v153 v154 v155 v156 v157 v158 v159 v160 v161 v162 v163 v164 v165 v166 v167 v168 v169 v170 v171 v172 v173 v174 wx hrel9
            go_wp2_with fail
            go_meet
            case rel => exact hrel9
          · refine acts_case1 ba oa n cap k KY inn pl ct nw pend po cp bo wr V what place side ao2 n2 cap2 xs _ _ _ _ _ _ _ _ _ _ _ _ _ _ _ _ _ _ _ _ _ _ _ _ _ _ _ _ _ _ _ _ _ _ _ _ _ _ _ _ _ _ _ _ _ _ _ _ _ _ _ _ _ _ _ _ _ _ _ _ _ _ _ _ _ _ _ _ _ _ _ _ _ _ _ _ _ _ _ _ _ _ _ _ _ _ _ _ _ _ _ _ _ _ _ _ _ _ _ _ _ _ _ _ _ _ _ _ _ _ _ _ _ _ _ _ _ _ _ _ _ _ _ _ _ _ _ _ _ _ _ _ _ _ _ _ _ _ _ _ _ _ _ _ _ _ _ _ _ _ _ _ _ _ _ _ _ _ _ _ _ _ _ _ _ _ _ _ _ _ _ _ _ _ _ _ _ _ _ _ _ _ _ _ _ _ _ _ _ _ _ _ _ _ _ _ _ _ HS HAT HOK FN hbV hba hKYr hlt h10 b0 b9 hk30 hL h4 _ _ ?_
            intro s4 s5 s6 s7 s8 s10 s12 s13 s14 v19 v20 v21 v22 v23 v24 v25 v26 v27 v28 v29 v30 v31 v32 v33 v34 v35 v36 v37 v38 v39 v40 v41 v42 v43 v44 v45 v46 v47 v48 v49 v50 v51 v52 v53 v54 v55 v56 v57 v58 v59 v60 v61 v62 v63 v64 v65 v66 v67 v68 v69 v70 v71 v72 v73 v74 v75 v76 v77 v78 v79 v80 v81 v82 v83 v84 v85 v86 v87 v88 v89 v90 v91 v92 v93 v94 v95 v96 v97 v98 v99 v100 v101 v102 v103 v104 v105 v106 v107 v108 v109 v110 v111 v112 v113 v114 v115 v116 v117 v118 v119 v120 v121 v122 v123 v124 v125 v126 v127 v128 v129 v130 v131 v132 v133 v134 v135 v136 v137 v138 v139 v140 v141 v142 v143 v144 v145 v146 v147 v148 v149 v150 v151 v152 v153 v154 v155 v156 v157 v158 v159 v160 v161 v162 v163 v164 v165 v166 v167 v168 v169 v170 v171 v172 v173 v174 wx hrel9
            go_wp2_with fail
            go_meet
            case rel => exact hrel9
          · refine acts_case2 ba oa n cap k KY inn pl ct nw pend po cp bo wr V what place side ao2 n2 cap2 xs _ _ _ _ _ _ _ _ _ _ _ _ _ _ _ _ _ _ _ _ _ _ _ _ _ _ _ _ _ _ _ _ _ _ _ _ _ _ _ _ _ _ _ _ _ _ _ _ _ _ _ _ _ _ _ _ _ _ _ _ _ _ _ _ _ _ _ _ _ _ _ _ _ _ _ _ _ _ _ _ _ _ _ _ _ _ _ _ _ _ _ _ _ _ _ _ _ _ _ _ _ _ _ _ _ _ _ _ _ _ _ _ _ _ _ _ _ _ _ _ _ _ _ _ _ _ _ _ _ _ _ _ _ _ _ _ _ _ _ _ _ _ _ _ _ _ _ _ _ _ _ _ _ _ _ _ _ _ _ _ _ _ _ _ _ _ _ _ _ _ _ _ _ _ _ _ _ _ _ _ _ _ _ _ _ _ _ _ _ _ _ _ _ _ _ _ _ _ HS HAT HOK FN hbV hba hKYr hlt h10 b0 b9 hk30 hL h4 _ _ ?_
            intro s4 s5 s6 s7 s8 s10 s12 s13 s14 v19 v20 v21 v22 v23 v24 v25 v26 v27 v28 v29 v30 v31 v32 v33 v34 v35 v36 v37 v38 v39 v40 v41 v42 v43 v44 v45 v46 v47 v48 v49 v50 v51 v52 v53 v54 v55 v56 v57 v58 v59 v60 v61 v62 v63 v64 v65 v66 v67 v68 v69 v70 v71 v72 v73 v74 v75 v76 v77 v78 v79 v80 v81 v82 v83 v84 v85 v86 v87 v88 v89 v90 v91 v92 v93 v94 v95 v96 v97 v98 v99 v100 v101 v102 v103 v104 v105 v106 v107 v108 v109 v110 v111 v112 v113 v114 v115 v116 v117 v118 v119 v120 v121 v122 v123 v124 v125 v126 v127 v128 v129 v130 v131 v132 v133 v134 v135 v136 v137 v138 v139 v140 v141 v142 v143 v144 v145 v146 v147 v148 v149 v150 v151 v152 v153 v154 v155 v156 v157 v158 v159 v160 v161 v162 v163 v164 v165 v166 v167 v168 v169 v170 v171 v172 v173 v174 wx hrel9
            go_wp2_with fail
            go_meet
            case rel => exact hrel9
          · refine acts_case3 ba oa n cap k KY inn pl ct nw pend po cp bo wr V what place side ao2 n2 cap2 xs _ _ _ _ _ _ _ _ _ _ _ _ _ _ _ _ _ _ _ _ _ _ _ _ _ _ _ _ _ _ _ _ _ _ _ _ _ _ _ _ _ _ _ _ _ _ _ _ _ _ _ _ _ _ _ _ _ _ _ _ _ _ _ _ _ _ _ _ _ _ _ _ _ _ _ _ _ _ _ _ _ _ _ _ _ _ _ _ _ _ _ _ _ _ _ _ _ _ _ _ _ _ _ _ _ _ _ _ _ _ _ _ _ _ _ _ _ _ _ _ _ _ _ _ _ _ _ _ _ _ _ _ _ _ _ _ _ _ _ _ _ _ _ _ _ _ _ _ _ _ _ _ _ _ _ _ _ _ _ _ _ _ _ _ _ _ _ _ _ _ _ _ _ _ _ _ _ _ _ _ _ _ _ _ _ _ _ _ _ _ _ _ _ _ _ _ _ _ HS HAT HOK FN hbV hba hKYr hlt h10 b0 b9 hk30 hL h4 _ _ ?_
            intro s4 s5 s6 s7 s8 s10 s12 s13 s14 v19 v20 v21 v22 v23 v24 v25 v26 v27 v28 v29 v30 v31 v32 v33 v34 v35 v36 v37 v38 v39 v40 v41 v42 v43 v44 v45 v46 v47 v48 v49 v50 v51 v52 v53 v54 v55 v56 v57 v58 v59 v60 v61 v62 v63 v64 v65 v66 v67 v68 v69 v70 v71 v72 v73 v74 v75 v76 v77 v78 v79 v80 v81 v82 v83 v84 v85 v86 v87 v88 v89 v90 v91 v92 v93 v94 v95 v96 v97 v98 v99 v100 v101 v102 v103 v104 v105 v106 v107 v108 v109 v110 v111 v112 v113 v114 v115 v116 v117 v118 v119 v120 v121 v122 v123 v124 v125 v126 v127 v128 v129 v130 v131 v132 v133 v134 v135 v136 v137 v138 v139 v140 v141 v142 v143 v144 v145 v146 v147 v148 v149 v150 v151 v152 v153 v154 v155 v156 v157 v158 v159 v160 v161 v162 v163 v164 v165 v166 v167 v168 v169 v170 v171 v172 v173 v174 wx hrel9
            go_wp2_with fail
            go_meet
            case rel => exact hrel9
        case rest =>
          obtain ⟨inn1, pl1, ct1, nw1, pend1, po1, cp1, ev, rfl, rfl, rfl, rfl, rfl, rfl, rfl, HW, hbx⟩ := hcut
          have hev : (ev != ev) = false := by simp
          rcases HW.out.next with ⟨h0, ⟨v9, hf⟩, rfl, rfl, rfl, rfl, rfl⟩ | ⟨rfl, bo1, hf, hl1, hn1⟩
          · have h0b : (ev != 0) = true := by simp [h0]
            obtain ⟨⟨c0, c1, c2, c3, c4⟩, -⟩ := hf
            go_wp2_with fail
            go_roundg (gk - 1)
            case measure => have := HM.out; omega
            case rel => exact ⟨k + 1, _, _, _, _, _, po1, cp1, bo, by omega, by have := HM.out; omega, by go_num, rfl, rfl, rfl, rfl, rfl, Lib.hid ⟨HS.out.yarn.below hbx hKYr, HS.out.lieY.below hbx, HS.out.neY, HW.out.lieP, HW.out.neP, HW.out.room, HS.out.vy, ⟨HS.out.count.1, by have := HS.out.count.2; omega⟩, by have := HS.out.len; omega⟩, hb.trans (hbx.mono (by omega))⟩
          · have HL1 := Lib.hid hl1
            have HN1 := Lib.hid hn1
            obtain ⟨⟨c0, c1, c2, c3, c4⟩, -⟩ := hf
            have HFY := Lib.hid (HS.out.yarn.below hbx hKYr)
            obtain ⟨⟨d0, d1, d2, d3, d4⟩, ⟨f0, f1, f2, f3, f4⟩⟩ := HFY.out
            clear hl1 hn1 hev
            go_wp2_with fail
            obtain ⟨V2, hV2⟩ : ∃ V2 : World, V2 = ((((wc.setCell ⟨KY, 0, none⟩ (.bool inn1)).setCell ⟨KY, 1, none⟩ (.int .i64 pl1)).setCell ⟨KY, 2, none⟩ (.int .i64 ct1)).setCell ⟨KY, 3, none⟩ (.bool nw1)).setCell ⟨KY, 4, none⟩ (.slice bo1 (List.length pend1) (List.length pend1)) := ⟨_, rfl⟩
            rw [← hV2]
            have F2 : Hid (Five V2 KY (.bool inn1) (.int .i64 pl1) (.int .i64 ct1) (.bool nw1) (.slice bo1 (List.length pend1) (List.length pend1))) := by rw [hV2]; exact five_set HFY.out _ _ _ _ _
            have L2 : Hid (Lie V2 bo1 pend1) := by rw [hV2]; exact lie_sets5 HL1.out HN1.out _ _ _ _ _
            have M2 : Hid (Lie V2 po1 pend1) := by rw [hV2]; exact lie_sets5 HW.out.lieP HW.out.neP _ _ _ _ _
            have hb2 : Below KY w V2 := by rw [hV2]; exact below_sets5 (hb.trans (hbx.mono (by omega))) (Nat.le_refl _) _ _ _ _ _
            have hK2 := five_lt F2.out
            have hL : pend1.length ≤ 310 := by have := HW.out.len; omega
            clear hV2 c0 c1 c2 c3 c4 d0 d1 d2 d3 d4 f0 f1 f2 f3 f4 HFY HL1
            refine rgR [some 193, some 194, some 195, some 196, some 197, some 198, some 199, some 200, some 201, some 202, some 203, some 204, some 205, some 206, some 207, some 208, some 209, some 210, some 211, some 212, some 213, some 214, some 215, some 216, some 217, some 218, some 219, some 220, some 221, some 222, some 223, some 224, some 225, some 226, some 227, some 228, some 229, some 230] (psi55 pl1 ct1 inn1 nw1 pend1 bo1 po1 cp1 KY V2.heap.size) (fun w' => Below V2.heap.size V2 w') (relA 34 V2.heap.size) (by kernel_rfl) (by kernel_rfl) (by kernel_rfl) (fun i j v w w' hji hI hp hr => by
              rcases hr with ⟨_, hb⟩ | ⟨rfl, _, hs⟩
              · exact psi55_below pl1 ct1 inn1 nw1 pend1 bo1 po1 cp1 KY V2.heap.size j v w w' hp hb
              · exact psi55_other pl1 ct1 inn1 nw1 pend1 bo1 po1 cp1 KY V2.heap.size j v w w' hji hs hp) (invA_stab 34) (fun i o ho fa w1 hs hout hI hdep hold => ?_) ?_ (Below.refl _ _).drew
            · have hlt9 := (Array.getElem?_eq_some_iff.1 ho).1
              have F1 := F2.out.below hI hK2
              have c0 := F1.1.1
              have c1 := F1.1.2.1
              have c2 := F1.1.2.2.1
              have c3 := F1.1.2.2.2.1
              have c4 := F1.1.2.2.2.2
              have L1 := L2.out.below hI
              have M1 := M2.out.below hI
              match i, ho with
              | 0, ho =>
                obtain rfl := Option.some.inj ho
                refine .inl ⟨rfl, fun K hK => ?_⟩
                exact ld38 rfl ((hout 3 rfl).trans rfl) F1 (hK _ _ (.inl ⟨by decide, Below.refl _ _⟩) rfl)
              | 1, ho =>
                obtain rfl := Option.some.inj ho
                have q0 : fa.tmps.getD 193 undef = .agg #[.bool inn1, .int .i64 pl1, .int .i64 ct1, .bool nw1, .slice bo1 (List.length pend1) (List.length pend1)] := hdep ⟨0, .data⟩ (by simp) rfl _ rfl
                refine .inl ⟨rfl, fun K hK => ?_⟩
                exact step_calls rfl enter21 (vs := #[.agg #[.bool inn1, .int .i64 pl1, .int .i64 ct1, .bool nw1, .slice bo1 (List.length pend1) (List.length pend1)]]) (vals1 q0) ((check_ok inn1 pl1 ct1 nw1 bo1 pend1 _ _ _ rfl (by omega) L1 HW.out.vy).mono fun e w' hh => by
                  obtain ⟨rfl, hb⟩ := hh
                  exact ⟨_, rfl, hK _ _ (.inl ⟨by decide, hb⟩) rfl⟩)
              | 2, ho =>
                obtain rfl := Option.some.inj ho
                have q1 : fa.tmps.getD 194 undef = .int .i64 0 := hdep ⟨1, .data⟩ (by simp) rfl _ rfl
                refine .inl ⟨rfl, fun K hK => ?_⟩
                exact st_neq_41 rfl q1 rfl (hK _ _ (.inl ⟨by decide, Below.refl _ _⟩) (congrArg Value.bool (by decide)))
              | 3, ho =>
                obtain rfl := Option.some.inj ho
                have q2 : fa.tmps.getD 195 undef = .bool false := hdep ⟨2, .data⟩ (by simp) rfl _ rfl
                refine .inl ⟨rfl, fun K hK => ?_⟩
                exact st_move rfl q2 (hK _ _ (.inl ⟨by decide, Below.refl _ _⟩) rfl)
              | 4, ho =>
                obtain rfl := Option.some.inj ho
                have qg : fa.tmps.getD 196 undef = .bool false := hdep ⟨3, .guard⟩ (by simp) rfl _ rfl
                refine .inl ⟨wanted_of (j := 3) (d := 196) rfl rfl rfl (by rw [hs]; exact of_decide_eq_true (by kernel_rfl)) qg, fun K hK => ?_⟩
                exact fa38_0 rfl ((hout 3 rfl).trans rfl) (hK _ _ (.inl ⟨by decide, Below.refl _ _⟩) rfl)
              | 5, ho =>
                obtain rfl := Option.some.inj ho
                have q4 : fa.tmps.getD 197 undef = .pointer (some ⟨KY, 0, none⟩) := hdep ⟨4, .data⟩ (by simp) rfl _ rfl
                have qg : fa.tmps.getD 196 undef = .bool false := hdep ⟨3, .guard⟩ (by simp) rfl _ rfl
                refine .inl ⟨wanted_of (j := 3) (d := 196) rfl rfl rfl (by rw [hs]; exact of_decide_eq_true (by kernel_rfl)) qg, fun K hK => ?_⟩
                exact ld4 rfl q4 c0 (hK _ _ (.inl ⟨by decide, Below.refl _ _⟩) rfl)
              | 6, ho =>
                obtain rfl := Option.some.inj ho
                have qg : fa.tmps.getD 196 undef = .bool false := hdep ⟨3, .guard⟩ (by simp) rfl _ rfl
                refine .inl ⟨wanted_of (j := 3) (d := 196) rfl rfl rfl (by rw [hs]; exact of_decide_eq_true (by kernel_rfl)) qg, fun K hK => ?_⟩
                exact st_move rfl ((hout 4 rfl).trans rfl) (hK _ _ (.inl ⟨by decide, Below.refl _ _⟩) rfl)
              | 7, ho =>
                obtain rfl := Option.some.inj ho
                have q5 : fa.tmps.getD 198 undef = .bool inn1 := hdep ⟨5, .data⟩ (by simp) rfl _ rfl
                have q6 : fa.tmps.getD 199 undef = .bool inn1 := hdep ⟨6, .data⟩ (by simp) rfl _ rfl
                have qg : fa.tmps.getD 196 undef = .bool false := hdep ⟨3, .guard⟩ (by simp) rfl _ rfl
                refine .inl ⟨wanted_of (j := 3) (d := 196) rfl rfl rfl (by rw [hs]; exact of_decide_eq_true (by kernel_rfl)) qg, fun K hK => ?_⟩
                exact st_neq_4 rfl q5 q6 (hK _ _ (.inl ⟨by decide, Below.refl _ _⟩) (congrArg Value.bool (by simp)))
              | 8, ho =>
                obtain rfl := Option.some.inj ho
                have q3 : fa.tmps.getD 196 undef = .bool false := hdep ⟨3, .data⟩ (by simp) rfl _ rfl
                have q7 : fa.tmps.getD 200 undef = .bool false := hdep ⟨7, .data⟩ (by simp) rfl _ rfl
                refine .inl ⟨rfl, fun K hK => ?_⟩
                exact st_or rfl q3 (fun _ => q7) (hK _ _ (.inl ⟨by decide, Below.refl _ _⟩) rfl)
              | 9, ho =>
                obtain rfl := Option.some.inj ho
                have q8 : fa.tmps.getD 201 undef = .bool false := hdep ⟨8, .data⟩ (by simp) rfl _ rfl
                refine .inl ⟨rfl, fun K hK => ?_⟩
                exact st_move rfl q8 (hK _ _ (.inl ⟨by decide, Below.refl _ _⟩) rfl)
              | 10, ho =>
                obtain rfl := Option.some.inj ho
                have qg : fa.tmps.getD 202 undef = .bool false := hdep ⟨9, .guard⟩ (by simp) rfl _ rfl
                refine .inl ⟨wanted_of (j := 9) (d := 202) rfl rfl rfl (by rw [hs]; exact of_decide_eq_true (by kernel_rfl)) qg, fun K hK => ?_⟩
                exact fa38_1 rfl ((hout 3 rfl).trans rfl) (hK _ _ (.inl ⟨by decide, Below.refl _ _⟩) rfl)
              | 11, ho =>
                obtain rfl := Option.some.inj ho
                have q10 : fa.tmps.getD 203 undef = .pointer (some ⟨KY, 1, none⟩) := hdep ⟨10, .data⟩ (by simp) rfl _ rfl
                have qg : fa.tmps.getD 202 undef = .bool false := hdep ⟨9, .guard⟩ (by simp) rfl _ rfl
                refine .inl ⟨wanted_of (j := 9) (d := 202) rfl rfl rfl (by rw [hs]; exact of_decide_eq_true (by kernel_rfl)) qg, fun K hK => ?_⟩
                exact ld3 rfl q10 c1 (hK _ _ (.inl ⟨by decide, Below.refl _ _⟩) rfl)
              | 12, ho =>
                obtain rfl := Option.some.inj ho
                have qg : fa.tmps.getD 202 undef = .bool false := hdep ⟨9, .guard⟩ (by simp) rfl _ rfl
                refine .inl ⟨wanted_of (j := 9) (d := 202) rfl rfl rfl (by rw [hs]; exact of_decide_eq_true (by kernel_rfl)) qg, fun K hK => ?_⟩
                exact st_move rfl ((hout 5 rfl).trans rfl) (hK _ _ (.inl ⟨by decide, Below.refl _ _⟩) rfl)
              | 13, ho =>
                obtain rfl := Option.some.inj ho
                have q11 : fa.tmps.getD 204 undef = .int .i64 pl1 := hdep ⟨11, .data⟩ (by simp) rfl _ rfl
                have q12 : fa.tmps.getD 205 undef = .int .i64 pl1 := hdep ⟨12, .data⟩ (by simp) rfl _ rfl
                have qg : fa.tmps.getD 202 undef = .bool false := hdep ⟨9, .guard⟩ (by simp) rfl _ rfl
                refine .inl ⟨wanted_of (j := 9) (d := 202) rfl rfl rfl (by rw [hs]; exact of_decide_eq_true (by kernel_rfl)) qg, fun K hK => ?_⟩
                exact st_neq_3 rfl q11 q12 (hK _ _ (.inl ⟨by decide, Below.refl _ _⟩) (congrArg Value.bool (by simp)))
              | 14, ho =>
                obtain rfl := Option.some.inj ho
                have q9 : fa.tmps.getD 202 undef = .bool false := hdep ⟨9, .data⟩ (by simp) rfl _ rfl
                have q13 : fa.tmps.getD 206 undef = .bool false := hdep ⟨13, .data⟩ (by simp) rfl _ rfl
                refine .inl ⟨rfl, fun K hK => ?_⟩
                exact st_or rfl q9 (fun _ => q13) (hK _ _ (.inl ⟨by decide, Below.refl _ _⟩) rfl)
              | 15, ho =>
                obtain rfl := Option.some.inj ho
                have q14 : fa.tmps.getD 207 undef = .bool false := hdep ⟨14, .data⟩ (by simp) rfl _ rfl
                refine .inl ⟨rfl, fun K hK => ?_⟩
                exact st_move rfl q14 (hK _ _ (.inl ⟨by decide, Below.refl _ _⟩) rfl)
              | 16, ho =>
                obtain rfl := Option.some.inj ho
                have qg : fa.tmps.getD 208 undef = .bool false := hdep ⟨15, .guard⟩ (by simp) rfl _ rfl
                refine .inl ⟨wanted_of (j := 15) (d := 208) rfl rfl rfl (by rw [hs]; exact of_decide_eq_true (by kernel_rfl)) qg, fun K hK => ?_⟩
                exact fa38_2 rfl ((hout 3 rfl).trans rfl) (hK _ _ (.inl ⟨by decide, Below.refl _ _⟩) rfl)
              | 17, ho =>
                obtain rfl := Option.some.inj ho
                have q16 : fa.tmps.getD 209 undef = .pointer (some ⟨KY, 2, none⟩) := hdep ⟨16, .data⟩ (by simp) rfl _ rfl
                have qg : fa.tmps.getD 208 undef = .bool false := hdep ⟨15, .guard⟩ (by simp) rfl _ rfl
                refine .inl ⟨wanted_of (j := 15) (d := 208) rfl rfl rfl (by rw [hs]; exact of_decide_eq_true (by kernel_rfl)) qg, fun K hK => ?_⟩
                exact ld3 rfl q16 c2 (hK _ _ (.inl ⟨by decide, Below.refl _ _⟩) rfl)
              | 18, ho =>
                obtain rfl := Option.some.inj ho
                have qg : fa.tmps.getD 208 undef = .bool false := hdep ⟨15, .guard⟩ (by simp) rfl _ rfl
                refine .inl ⟨wanted_of (j := 15) (d := 208) rfl rfl rfl (by rw [hs]; exact of_decide_eq_true (by kernel_rfl)) qg, fun K hK => ?_⟩
                exact st_move rfl ((hout 6 rfl).trans rfl) (hK _ _ (.inl ⟨by decide, Below.refl _ _⟩) rfl)
              | 19, ho =>
                obtain rfl := Option.some.inj ho
                have q17 : fa.tmps.getD 210 undef = .int .i64 ct1 := hdep ⟨17, .data⟩ (by simp) rfl _ rfl
                have q18 : fa.tmps.getD 211 undef = .int .i64 ct1 := hdep ⟨18, .data⟩ (by simp) rfl _ rfl
                have qg : fa.tmps.getD 208 undef = .bool false := hdep ⟨15, .guard⟩ (by simp) rfl _ rfl
                refine .inl ⟨wanted_of (j := 15) (d := 208) rfl rfl rfl (by rw [hs]; exact of_decide_eq_true (by kernel_rfl)) qg, fun K hK => ?_⟩
                exact st_neq_3 rfl q17 q18 (hK _ _ (.inl ⟨by decide, Below.refl _ _⟩) (congrArg Value.bool (by simp)))
              | 20, ho =>
                obtain rfl := Option.some.inj ho
                have q15 : fa.tmps.getD 208 undef = .bool false := hdep ⟨15, .data⟩ (by simp) rfl _ rfl
                have q19 : fa.tmps.getD 212 undef = .bool false := hdep ⟨19, .data⟩ (by simp) rfl _ rfl
                refine .inl ⟨rfl, fun K hK => ?_⟩
                exact st_or rfl q15 (fun _ => q19) (hK _ _ (.inl ⟨by decide, Below.refl _ _⟩) rfl)
              | 21, ho =>
                obtain rfl := Option.some.inj ho
                have q20 : fa.tmps.getD 213 undef = .bool false := hdep ⟨20, .data⟩ (by simp) rfl _ rfl
                refine .inl ⟨rfl, fun K hK => ?_⟩
                exact st_move rfl q20 (hK _ _ (.inl ⟨by decide, Below.refl _ _⟩) rfl)
              | 22, ho =>
                obtain rfl := Option.some.inj ho
                have qg : fa.tmps.getD 214 undef = .bool false := hdep ⟨21, .guard⟩ (by simp) rfl _ rfl
                refine .inl ⟨wanted_of (j := 21) (d := 214) rfl rfl rfl (by rw [hs]; exact of_decide_eq_true (by kernel_rfl)) qg, fun K hK => ?_⟩
                exact fa38_3 rfl ((hout 3 rfl).trans rfl) (hK _ _ (.inl ⟨by decide, Below.refl _ _⟩) rfl)
              | 23, ho =>
                obtain rfl := Option.some.inj ho
                have q22 : fa.tmps.getD 215 undef = .pointer (some ⟨KY, 3, none⟩) := hdep ⟨22, .data⟩ (by simp) rfl _ rfl
                have qg : fa.tmps.getD 214 undef = .bool false := hdep ⟨21, .guard⟩ (by simp) rfl _ rfl
                refine .inl ⟨wanted_of (j := 21) (d := 214) rfl rfl rfl (by rw [hs]; exact of_decide_eq_true (by kernel_rfl)) qg, fun K hK => ?_⟩
                exact ld4 rfl q22 c3 (hK _ _ (.inl ⟨by decide, Below.refl _ _⟩) rfl)
              | 24, ho =>
                obtain rfl := Option.some.inj ho
                have qg : fa.tmps.getD 214 undef = .bool false := hdep ⟨21, .guard⟩ (by simp) rfl _ rfl
                refine .inl ⟨wanted_of (j := 21) (d := 214) rfl rfl rfl (by rw [hs]; exact of_decide_eq_true (by kernel_rfl)) qg, fun K hK => ?_⟩
                exact st_move rfl ((hout 7 rfl).trans rfl) (hK _ _ (.inl ⟨by decide, Below.refl _ _⟩) rfl)
              | 25, ho =>
                obtain rfl := Option.some.inj ho
                have q23 : fa.tmps.getD 216 undef = .bool nw1 := hdep ⟨23, .data⟩ (by simp) rfl _ rfl
                have q24 : fa.tmps.getD 217 undef = .bool nw1 := hdep ⟨24, .data⟩ (by simp) rfl _ rfl
                have qg : fa.tmps.getD 214 undef = .bool false := hdep ⟨21, .guard⟩ (by simp) rfl _ rfl
                refine .inl ⟨wanted_of (j := 21) (d := 214) rfl rfl rfl (by rw [hs]; exact of_decide_eq_true (by kernel_rfl)) qg, fun K hK => ?_⟩
                exact st_neq_4 rfl q23 q24 (hK _ _ (.inl ⟨by decide, Below.refl _ _⟩) (congrArg Value.bool (by simp)))
              | 26, ho =>
                obtain rfl := Option.some.inj ho
                have q21 : fa.tmps.getD 214 undef = .bool false := hdep ⟨21, .data⟩ (by simp) rfl _ rfl
                have q25 : fa.tmps.getD 218 undef = .bool false := hdep ⟨25, .data⟩ (by simp) rfl _ rfl
                refine .inl ⟨rfl, fun K hK => ?_⟩
                exact st_or rfl q21 (fun _ => q25) (hK _ _ (.inl ⟨by decide, Below.refl _ _⟩) rfl)
              | 27, ho =>
                obtain rfl := Option.some.inj ho
                have q26 : fa.tmps.getD 219 undef = .bool false := hdep ⟨26, .data⟩ (by simp) rfl _ rfl
                refine .inl ⟨rfl, fun K hK => ?_⟩
                exact st_move rfl q26 (hK _ _ (.inl ⟨by decide, Below.refl _ _⟩) rfl)
              | 28, ho =>
                obtain rfl := Option.some.inj ho
                have qg : fa.tmps.getD 220 undef = .bool false := hdep ⟨27, .guard⟩ (by simp) rfl _ rfl
                refine .inl ⟨wanted_of (j := 27) (d := 220) rfl rfl rfl (by rw [hs]; exact of_decide_eq_true (by kernel_rfl)) qg, fun K hK => ?_⟩
                exact fa38_4 rfl ((hout 3 rfl).trans rfl) (hK _ _ (.inl ⟨by decide, Below.refl _ _⟩) rfl)
              | 29, ho =>
                obtain rfl := Option.some.inj ho
                have q28 : fa.tmps.getD 221 undef = .pointer (some ⟨KY, 4, none⟩) := hdep ⟨28, .data⟩ (by simp) rfl _ rfl
                have qg : fa.tmps.getD 220 undef = .bool false := hdep ⟨27, .guard⟩ (by simp) rfl _ rfl
                refine .inl ⟨wanted_of (j := 27) (d := 220) rfl rfl rfl (by rw [hs]; exact of_decide_eq_true (by kernel_rfl)) qg, fun K hK => ?_⟩
                exact ld23 rfl q28 c4 (hK _ _ (.inl ⟨by decide, Below.refl _ _⟩) rfl)
              | 30, ho =>
                obtain rfl := Option.some.inj ho
                have qg : fa.tmps.getD 220 undef = .bool false := hdep ⟨27, .guard⟩ (by simp) rfl _ rfl
                refine .inl ⟨wanted_of (j := 27) (d := 220) rfl rfl rfl (by rw [hs]; exact of_decide_eq_true (by kernel_rfl)) qg, fun K hK => ?_⟩
                exact st_move rfl ((hout 8 rfl).trans rfl) (hK _ _ (.inl ⟨by decide, Below.refl _ _⟩) rfl)
              | 31, ho =>
                obtain rfl := Option.some.inj ho
                have q30 : fa.tmps.getD 223 undef = .slice po1 (List.length pend1) cp1 := hdep ⟨30, .data⟩ (by simp) rfl _ rfl
                have qg : fa.tmps.getD 220 undef = .bool false := hdep ⟨27, .guard⟩ (by simp) rfl _ rfl
                refine .inl ⟨wanted_of (j := 27) (d := 220) rfl rfl rfl (by rw [hs]; exact of_decide_eq_true (by kernel_rfl)) qg, fun K hK => ?_⟩
                exact len23 rfl q30 (hK _ _ (.inl ⟨by decide, Below.refl _ _⟩) rfl)
              | 32, ho =>
                obtain rfl := Option.some.inj ho
                have q31 : fa.tmps.getD 224 undef = .int .i64 ((List.length pend1) : Int) := hdep ⟨31, .data⟩ (by simp) rfl _ rfl
                have qg : fa.tmps.getD 220 undef = .bool false := hdep ⟨27, .guard⟩ (by simp) rfl _ rfl
                refine .inl ⟨wanted_of (j := 27) (d := 220) rfl rfl rfl (by rw [hs]; exact of_decide_eq_true (by kernel_rfl)) qg, fun K hK => ?_⟩
                exact st_mk0 rfl q31 (by omega) (hK _ _ (.inl ⟨by decide, below1 _ _⟩) ⟨_, rfl, World.ownsRow_made (e := 33) (size := 4) w1 (rowNew (List.length pend1)) (List.length pend1) hI.size (by simp [maxLen]; omega) (rowNew_size _)⟩)
              | 33, ho =>
                obtain rfl := Option.some.inj ho
                have qg : fa.tmps.getD 220 undef = .bool false := hdep ⟨27, .guard⟩ (by simp) rfl _ rfl
                refine .inl ⟨wanted_of (j := 27) (d := 220) rfl rfl rfl (by rw [hs]; exact of_decide_eq_true (by kernel_rfl)) qg, fun K hK => ?_⟩
                exact st_move rfl ((hout 8 rfl).trans rfl) (hK _ _ (.inl ⟨by decide, Below.refl _ _⟩) rfl)
              | 34, ho =>
                obtain rfl := Option.some.inj ho
                have q32 : ∃ g, fa.tmps.getD 225 undef = .slice (some ⟨g, 0, none⟩) 0 (List.length pend1) ∧ OwnZ w1 V2.heap.size g (List.length pend1) := hdep ⟨32, .data⟩ (by simp) rfl _ rfl
                have q33 : fa.tmps.getD 226 undef = .slice po1 (List.length pend1) cp1 := hdep ⟨33, .data⟩ (by simp) rfl _ rfl
                have qg : fa.tmps.getD 220 undef = .bool false := hdep ⟨27, .guard⟩ (by simp) rfl _ rfl
                refine .inl ⟨wanted_of (j := 27) (d := 220) rfl rfl rfl (by rw [hs]; exact of_decide_eq_true (by kernel_rfl)) qg, fun K hK => ?_⟩
                obtain ⟨g, q32, hz⟩ := q32
                exact st_append rfl q32 hz q33 rfl M1 HW.out.room hI.size (fun w' hb hl hs => hK _ _ (.inr ⟨rfl, hb, hs⟩) ⟨g, rfl, hl⟩)
              | 35, ho =>
                obtain rfl := Option.some.inj ho
                have q29 : fa.tmps.getD 222 undef = .slice bo1 (List.length pend1) (List.length pend1) := hdep ⟨29, .data⟩ (by simp) rfl _ rfl
                have q34 : ∃ g, fa.tmps.getD 227 undef = .slice (some ⟨g, 0, none⟩) (List.length pend1) (List.length pend1) ∧ Lie w1 (some ⟨g, 0, none⟩) pend1 := hdep ⟨34, .data⟩ (by simp) rfl _ rfl
                have qg : fa.tmps.getD 220 undef = .bool false := hdep ⟨27, .guard⟩ (by simp) rfl _ rfl
                refine .inl ⟨wanted_of (j := 27) (d := 220) rfl rfl rfl (by rw [hs]; exact of_decide_eq_true (by kernel_rfl)) qg, fun K hK => ?_⟩
                obtain ⟨g, q34, hlg⟩ := q34
                exact step_calls rfl enter13 (vs := #[.slice bo1 (List.length pend1) (List.length pend1), .slice (some ⟨g, 0, none⟩) (List.length pend1) (List.length pend1)]) (vals2 q29 q34) ((same_yes _ _ pend1 _ _ _ rfl (by omega) L1 hlg).mono fun e w' hh => by
                  obtain ⟨rfl, hb⟩ := hh
                  exact ⟨_, rfl, hK _ _ (.inl ⟨by decide, hb⟩) rfl⟩)
              | 36, ho =>
                obtain rfl := Option.some.inj ho
                have q35 : fa.tmps.getD 228 undef = .int .i64 1 := hdep ⟨35, .data⟩ (by simp) rfl _ rfl
                have qg : fa.tmps.getD 220 undef = .bool false := hdep ⟨27, .guard⟩ (by simp) rfl _ rfl
                refine .inl ⟨wanted_of (j := 27) (d := 220) rfl rfl rfl (by rw [hs]; exact of_decide_eq_true (by kernel_rfl)) qg, fun K hK => ?_⟩
                exact st_eql_3 rfl q35 rfl (hK _ _ (.inl ⟨by decide, Below.refl _ _⟩) (congrArg Value.bool (by decide)))
              | 37, ho =>
                obtain rfl := Option.some.inj ho
                have q27 : fa.tmps.getD 220 undef = .bool false := hdep ⟨27, .data⟩ (by simp) rfl _ rfl
                have q36 : fa.tmps.getD 229 undef = .bool false := hdep ⟨36, .data⟩ (by simp) rfl _ rfl
                refine .inl ⟨rfl, fun K hK => ?_⟩
                exact st_or rfl q27 (fun _ => q36) (hK _ _ (.inl ⟨by decide, Below.refl _ _⟩) rfl)
              | i + 38, ho => exact absurd (show i + 38 < 38 from hlt9) (by omega)
            · intro a2 w4 hs hd hout hI hall
              obtain ⟨tmps, defers⟩ := a2
              have e_230 : tmps.getD 230 undef = .bool false := hall 37 _ rfl
              simp only at hs hd hout
              have ef := frameAt [some 193, some 194, some 195, some 196, some 197, some 198, some 199, some 200, some 201, some 202, some 203, some 204, some 205, some 206, some 207, some 208, some 209, some 210, some 211, some 212, some 213, some 214, some 215, some 216, some 217, some 218, some 219, some 220, some 221, some 222, some 223, some 224, some 225, some 226, some 227, some 228, some 229, some 230] _ tmps hs hout
              obtain ⟨sv55, hu⟩ : ∃ u : Nat → Value, u = fun s => tmps.getD s undef := ⟨_, rfl⟩
              have eu_230 : sv55 230 = .bool false := by rw [hu]; exact e_230
              rw [← hu] at ef
              have ef2 : tmps = #[Value.slice (some { block := ba, off := oa }) n cap, undef, u2, Value.pointer (some { block := KY, off := 0 }), Value.bool inn1, Value.int IntKind.i64 pl1, Value.int IntKind.i64 ct1, Value.bool nw1, Value.slice po1 pend1.length cp1, Value.int IntKind.i64 k, Value.int IntKind.i64 0, Value.pointer (some { block := wr.heap.size, off := 0 }), Value.int IntKind.i64 0, u13, u14, Value.slice (some { block := ba, off := oa }) n cap, Value.int IntKind.i64 n, Value.bool false, undef, u19, u20, u21, u22, u23, u24, u25, u26, u27, u28, u29, u30, u31, u32, u33, u34, u35, u36, u37, u38, u39, u40, u41, u42, u43, u44, u45, u46, u47, u48, u49, u50, u51, u52, u53, u54, u55, u56, u57, u58, u59, u60, u61, u62, u63, u64, u65, u66, u67, u68, u69, u70, u71, u72, u73, u74, u75, u76, u77, u78, u79, u80, u81, u82, u83, u84, u85, u86, u87, u88, u89, u90, u91, u92, u93, u94, u95, u96, u97, u98, u99, u100, u101, u102, u103, u104, u105, u106, u107, u108, u109, u110, u111, u112, u113, u114, u115, u116, u117, u118, u119, u120, u121, u122, u123, u124, u125, u126, u127, u128, u129, u130, u131, u132, u133, u134, u135, u136, u137, u138, u139, u140, u141, u142, u143, u144, u145, u146, u147, u148, u149, u150, u151, u152, u153, u154, u155, u156, u157, u158, u159, u160, u161, u162, u163, u164, u165, u166, u167, u168, u169, u170, u171, u172, u173, u174, Value.int IntKind.i64 0, Value.int IntKind.i64 0, Value.bool false, Value.int IntKind.i64 0, Value.bool false, u180, u181, u182, u183, u184, u185, u186, u187, u188, u189, u190, u191, Value.agg #[Value.bool inn1, Value.int IntKind.i64 pl1, Value.int IntKind.i64 ct1, Value.bool nw1, Value.slice bo1 pend1.length pend1.length], sv55 193, sv55 194, sv55 195, sv55 196, sv55 197, sv55 198, sv55 199, sv55 200, sv55 201, sv55 202, sv55 203, sv55 204, sv55 205, sv55 206, sv55 207, sv55 208, sv55 209, sv55 210, sv55 211, sv55 212, sv55 213, sv55 214, sv55 215, sv55 216, sv55 217, sv55 218, sv55 219, sv55 220, sv55 221, sv55 222, sv55 223, sv55 224, sv55 225, sv55 226, sv55 227, sv55 228, sv55 229, sv55 230, undef] := ef
              subst hd
              rw [eu_230] at ef2
              rw [ef2]
              clear ef ef2 hu hs hout hall e_230 eu_230
              go_wp2_with fail
              go_roundg (gk - 1)
              case measure => have := HM.out; omega
              case rel => exact ⟨k + 1, inn1, pl1, ct1, nw1, pend1, po1, cp1, bo1, by omega, by have := HM.out; omega, by go_num, rfl, rfl, rfl, rfl, rfl, Lib.hid ⟨F2.out.below hI hK2, L2.out.below hI, HN1.out, M2.out.below hI, HW.out.neP, HW.out.room, HW.out.vy, HW.out.count, HW.out.len⟩, hb2.trans (hI.mono (by omega))⟩
      · have g2 : (10 : Int) < n2 := by omega
        go_wp2_with (go_at_call 9; refine (lives_any _).mono ?_; rintro e wz ⟨rfl, hbz⟩)
        go_ret
        refine ⟨rfl, ?_⟩
        have := hb.trans (hbz.mono (by have := HKY.out; omega))
        rw [HKY.out] at this
        exact this
    · obtain rfl : k = n := by omega
      go_wp2_with (go_at_call 9; refine (lives_any _).mono ?_; rintro e wz ⟨rfl, hbz⟩)
      go_ret
      refine ⟨rfl, ?_⟩
      have := hb.trans (hbz.mono (by have := HKY.out; omega))
      rw [HKY.out] at this
      exact this

end Go.Proofs.Ytikdhdikaihenaa
