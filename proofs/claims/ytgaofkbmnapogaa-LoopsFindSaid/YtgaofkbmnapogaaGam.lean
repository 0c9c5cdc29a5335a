import Derived.Test.YtgaofkbmnapogaaGak
import Derived.Test.YtgaofkbmnapogaaGal
namespace Go.Proofs.Ytgaofkbmnapogaa
open Go.RowKit Go.Sort
set_option maxRecDepth 1000000
set_option maxHeartbeats 8000000
theorem of_in2 (b o n cap BT LB : Nat) (fa : Option Addr) (fl : List Nm) (fc : Nat) (ma : Option Addr) (ml : List Nm) (mc : Nat) (i q : Nat) (bd : Int) (nwv : Bool) (xy : Nat) (xb xn : Bool) (ta : Option Addr) (tl : List Nat) (tc : Nat) (pa : Option Addr) (pl : List Nat) (pc : Nat) (w wI wc : World) (F : Nat → Prop) (rs : List (Sl Lp)) (ls : List Lu) (T : List (List Lq)) (TF : List Nm × List Nm) (ga : Option Addr) (gl : List Nm) (gc : Nat) (sa : Option Addr) (sl : List Nm) (sc : Nat) (kx : Nat) (u11 u13 u14 u16 u17 u18 u19 u20 u21 u22 u23 u24 u25 u26 u27 u28 u29 u30 u31 u32 u33 u34 u35 u36 u37 u38 u39 u40 u41 u42 u43 u44 u45 u46 u47 u48 u49 u50 u51 u52 u53 u54 u55 u56 u57 u58 u59 u60 u61 u62 u63 u64 u65 u66 u67 u68 u69 u70 u71 u72 u73 u74 u75 u76 u77 u78 u79 u80 u81 u82 u83 u84 u85 u86 u87 u88 u89 u90 u91 u92 u93 u94 u95 u96 u97 u98 u99 u100 u101 u102 u103 u104 u105 u106 u107 u108 u109 u110 u111 u112 u113 u114 u115 u116 u117 u118 u119 u120 u121 u122 u123 u124 u125 u126 u127 u128 u129 u130 u131 u132 u133 u134 u135 u136 u137 u138 u139 u140 u141 u142 u143 u144 u145 u146 u147 u148 u149 u150 u151 u152 u153 u154 u155 u156 u157 u158 u159 u160 u161 u162 u163 u164 u165 u166 u167 u168 u169 u170 u171 u172 u173 u174 u175 u176 u177 u178 u179 u180 u181 : Value)
    (HXO : Hid (Lu.ok BT w ⟨xy, xb, xn, ⟨ta, tl, tc⟩, ⟨pa, pl, pc⟩⟩)) (HC : Hid (∀ W, Below BT w W → ∃ b' o', (some ⟨b, o, none⟩ : Option Addr) = some ⟨b', o', none⟩ ∧ b' < BT ∧ W.cell? ⟨b', o' + i * 5, none⟩ = some (.int .u8 xy) ∧ W.cell? ⟨b', o' + i * 5 + 1, none⟩ = some (.bool xb) ∧ W.cell? ⟨b', o' + i * 5 + 2, none⟩ = some (.bool xn) ∧ W.cell? ⟨b', o' + i * 5 + 3, none⟩ = some (.slice ta tl.length tc) ∧ W.cell? ⟨b', o' + i * 5 + 4, none⟩ = some (.slice pa pl.length pc))) (HB : Hid (Below BT w wI)) (HBL : Hid (BT < LB)) (hi1 : i < n) (z1 : (i : Int) < (n : Int)) (HS : Hid (OfS BT F wI rs (.slice fa fl.length fc) (.slice ma ml.length mc) T fl ml ∧ (⟨T, fl, ml⟩ : St) = ofL ((ls.map Lu.li).take i))) (HLB : Hid (wI.heap.size = LB)) (hi60 : i ≤ 60) (hbl : b < BT) (hyb : xy ≤ 255) (HI : Hid (InB LB BT bd nwv (.slice fa fl.length fc) wc ⟨ga, gl, gc⟩ ⟨sa, sl, sc⟩ Sl.nil ∧ Below LB wI wc ∧ TF = (sl, gl)))
    (Kp : Act → World → Prop) (Qx : Exit → Act → World → Prop)
    (hK : ∀ (ya : Option Addr) (yc : Nat) (k : Nat) (v16 v17 v18 v19 v20 v21 v22 v23 v24 v25 v26 v27 v28 v29 v30 v31 v32 v33 v34 v35 v36 v37 v38 v39 v40 v41 v42 v43 v44 v45 v46 v47 v48 v49 v50 v51 v52 v53 v54 v55 v56 v57 v58 v59 v60 v61 v62 v63 v64 v65 v66 v67 v68 v69 v70 v71 v72 v73 v74 v75 v76 v77 v78 v79 v80 v81 v82 v83 v84 v85 v86 v87 v88 v89 v90 v91 v92 v93 v94 v95 v96 v97 v98 v99 v100 v101 v102 v103 v104 v105 v106 v107 v108 v109 v110 v111 v112 v113 v114 v115 v116 v117 v118 v119 v120 v121 v122 v123 v124 v125 v126 v127 v128 v129 v130 v131 v132 v133 v134 v135 v136 v137 v138 v139 v140 v141 v142 v143 v144 v145 v146 v147 v148 v149 v150 v151 v152 v153 v154 v155 v156 v157 v158 v159 v160 v161 v162 v163 v164 v165 v166 v167 v168 v169 v170 v171 v172 v173 v174 v175 v176 v177 v178 v179 v180 v181 v13 : Value) (wx : World), Hid (InB LB BT bd nwv (.slice fa fl.length fc) wx ⟨ga, gl, gc⟩ ⟨sa, sl, sc⟩ ⟨ya, paM ((xy / 6 % 2 : Nat) : Int) ml (pl.take 5), yc⟩ ∧ Below LB wI wx) → Kp ⟨#[Value.slice (some ⟨b, o, none⟩) n cap, undef, Value.slice none 0 0, Value.slice none 0 0, Value.slice (some ⟨BT, 0, none⟩) 6 6, Value.slice ga gl.length gc, Value.slice ma ml.length mc, Value.int IntKind.i64 i, Value.int IntKind.i64 q, Value.pointer (some ⟨LB, 0, none⟩), Value.int IntKind.i64 kx, u11, .int .i64 k, v13, u14, Value.slice (some ⟨BT, 0, none⟩) 6 6, v16, v17, v18, v19, v20, v21, v22, v23, v24, v25, v26, v27, v28, v29, v30, v31, v32, v33, v34, v35, v36, v37, v38, v39, v40, v41, v42, v43, v44, v45, v46, v47, v48, v49, v50, v51, v52, v53, v54, v55, v56, v57, v58, v59, v60, v61, v62, v63, v64, v65, v66, v67, v68, v69, v70, v71, v72, v73, v74, v75, v76, v77, v78, v79, v80, v81, v82, v83, v84, v85, v86, v87, v88, v89, v90, v91, v92, v93, v94, v95, v96, v97, v98, v99, v100, v101, v102, v103, v104, v105, v106, v107, v108, v109, v110, v111, v112, v113, v114, v115, v116, v117, v118, v119, v120, v121, v122, v123, v124, v125, v126, v127, v128, v129, v130, v131, v132, v133, v134, v135, v136, v137, v138, v139, v140, v141, v142, v143, v144, v145, v146, v147, v148, v149, v150, v151, v152, v153, v154, v155, v156, v157, v158, v159, v160, v161, v162, v163, v164, v165, v166, v167, v168, v169, v170, v171, v172, v173, v174, v175, v176, v177, v178, v179, v180, v181, undef, undef], []⟩ wx) :
    Code.wp Try.prog blk8_4 (Exit.then Kp Qx) ⟨#[Value.slice (some ⟨b, o, none⟩) n cap, undef, Value.slice none 0 0, Value.slice none 0 0, Value.slice (some ⟨BT, 0, none⟩) 6 6, Value.slice ga gl.length gc, Value.slice ma ml.length mc, Value.int IntKind.i64 i, Value.int IntKind.i64 q, Value.pointer (some ⟨LB, 0, none⟩), Value.int IntKind.i64 kx, u11, Value.int IntKind.i64 0, u13, u14, Value.slice (some ⟨BT, 0, none⟩) 6 6, u16, u17, u18, u19, u20, u21, u22, u23, u24, u25, u26, u27, u28, u29, u30, u31, u32, u33, u34, u35, u36, u37, u38, u39, u40, u41, u42, u43, u44, u45, u46, u47, u48, u49, u50, u51, u52, u53, u54, u55, u56, u57, u58, u59, u60, u61, u62, u63, u64, u65, u66, u67, u68, u69, u70, u71, u72, u73, u74, u75, u76, u77, u78, u79, u80, u81, u82, u83, u84, u85, u86, u87, u88, u89, u90, u91, u92, u93, u94, u95, u96, u97, u98, u99, u100, u101, u102, u103, u104, u105, u106, u107, u108, u109, u110, u111, u112, u113, u114, u115, u116, u117, u118, u119, u120, u121, u122, u123, u124, u125, u126, u127, u128, u129, u130, u131, u132, u133, u134, u135, u136, u137, u138, u139, u140, u141, u142, u143, u144, u145, u146, u147, u148, u149, u150, u151, u152, u153, u154, u155, u156, u157, u158, u159, u160, u161, u162, u163, u164, u165, u166, u167, u168, u169, u170, u171, u172, u173, u174, u175, u176, u177, u178, u179, u180, u181, undef, undef], []⟩ wc := by
  conv => arg 2; whnf
  have hmo := HS.out.1.made
  go_wp2_with fail
  go_loopg [12] 6 (fun g v12 wx => ∃ (ya : Option Addr) (yc : Nat) (k : Nat), v12 = .int .i64 k ∧ k ≤ 5 ∧ g = 6 - k ∧ Hid (InB LB BT bd nwv (.slice fa fl.length fc) wx ⟨ga, gl, gc⟩ ⟨sa, sl, sc⟩ ⟨ya, paM ((xy / 6 % 2 : Nat) : Int) ml ((pl.take 5).take k), yc⟩ ∧ Below LB wI wx))
  case atStart => exact ⟨none, 0, 0, rfl, by omega, by omega, Lib.hid ⟨by have h := HI.out.1; have e : paM ((xy / 6 % 2 : Nat) : Int) ml ((pl.take 5).take 0) = [] := (by unfold paM; split <;> simp); rw [e]; exact h, HI.out.2.1⟩⟩
  case round =>
    obtain ⟨ya, yc, k, rfl, hk, hg2, HJ⟩ := hrel
    have HG2 := Lib.hid hg2
    clear hg2
    have HBJ : Hid (Below BT w wr) := Lib.hid (HB.out.trans (HJ.out.2.mono (Nat.le_of_lt HBL.out)))
    obtain ⟨b', o', hao, -, c0, c1, c2, c3, c4⟩ := HC.out _ HBJ.out
    cases hao
    by_cases hkl : k < pl.length
    · have hkz : (k : Int) < (pl.length : Int) := by omega
      by_cases hk5 : k < 5
      · have hkz5 : (k : Int) < 5 := by omega
        by_cases hml : ml = []
        · subst hml
          have hE : Hid (paM ((xy / 6 % 2 : Nat) : Int) [] (pl.take 5) = paM ((xy / 6 % 2 : Nat) : Int) [] ((pl.take 5).take k)) := Lib.hid (by unfold paM; rw [if_pos rfl, if_pos rfl])
          go_wp2_with fail
          exact hK ya yc k _ _ _ _ _ _ _ _ _ _ _ _ _ _ _ _ _ _ _ _ _ _ _ _ _ _ _ _ _ _ _ _ _ _ _ _ _ _ _ _ _ _ _ _ _ _ _ _ _ _ _ _ _ _ _ _ _ _ _ _ _ _ _ _ _ _ _ _ _ _ _ _ _ _ _ _ _ _ _ _ _ _ _ _ _ _ _ _ _ _ _ _ _ _ _ _ _ _ _ _ _ _ _ _ _ _ _ _ _ _ _ _ _ _ _ _ _ _ _ _ _ _ _ _ _ _ _ _ _ _ _ _ _ _ _ _ _ _ _ _ _ _ _ _ _ _ _ _ _ _ _ _ _ _ _ _ _ _ _ _ _ _ _ _ _ _ _ _ (Lib.hid ⟨by rw [hE.out]; exact HJ.out.1, HJ.out.2⟩)
        · have hmp : 0 < ml.length := List.length_pos_iff.2 hml
          have hmz : (0 : Int) < (ml.length : Int) := by omega
          have hmn : ¬ (ml.length : Int) = 0 := by omega
          have hmb : ((ml.length : Int) == 0) = false := by simpa using hml
          obtain ⟨c, hc⟩ : ∃ c, pl[k]? = some c := ⟨pl[k], List.getElem?_eq_getElem hkl⟩
          obtain ⟨pb, po, hpa, -, ct⟩ := (HXO.out.pa.below HBJ.out).byte hc
          obtain rfl : pa = some ⟨pb, po, none⟩ := hpa
          have hcb : c ≤ 255 := HXO.out.pb c (List.mem_of_getElem? hc)
          obtain ⟨m, hm⟩ : ∃ m, c / 2 % ml.length = m := ⟨_, rfl⟩
          have hmll : m < ml.length := by rw [← hm]; exact Nat.mod_lt _ hmp
          have hmlz : (m : Int) < (ml.length : Int) := by omega
          obtain ⟨c2', hc2'⟩ : ∃ c2', c / 2 = c2' := ⟨_, rfl⟩
          have hd1 : Int.tdiv (c : Int) 2 = (c2' : Int) := by rw [← hc2']; rfl
          have hmr : Int.tmod (c2' : Int) (ml.length : Int) = (m : Int) := by rw [← hm, ← hc2']; rfl
          obtain ⟨fb, hfb⟩ : ∃ fb : Bool, (c % 2 == 1) = fb := ⟨_, rfl⟩
          obtain ⟨r2, hr2⟩ : ∃ r2, c % 2 = r2 := ⟨_, rfl⟩
          have hrr : Int.tmod (c : Int) 2 = (r2 : Int) := by rw [← hr2]; rfl
          have hreq : ((r2 : Int) == 1) = fb := by
            rw [← hfb, hr2]
            have : r2 = 0 ∨ r2 = 1 := by omega
            rcases this with rfl | rfl <;> rfl
          obtain ⟨y6, hy6⟩ : ∃ y6, xy / 6 = y6 := ⟨_, rfl⟩
          have hd6 : Int.tdiv (xy : Int) 6 = (y6 : Int) := by rw [← hy6]; rfl
          obtain ⟨dd, hdd⟩ : ∃ dd, y6 % 2 = dd := ⟨_, rfl⟩
          have hdr : Int.tmod (y6 : Int) 2 = (dd : Int) := by rw [← hdd]; rfl
          obtain ⟨⟨py, pn⟩, hp⟩ : ∃ p, ml[m]? = some p := ⟨ml[m], List.getElem?_eq_getElem hmll⟩
          have hmo := below_owns HS.out.1.made (by rw [HLB.out]; exact HJ.out.2)
          obtain ⟨mb, g9, hgv, -, -⟩ := hmo.form hmp
          simp only [Sl.v, Value.slice.injEq] at hgv
          obtain ⟨rfl, -, rfl⟩ := hgv
          have hlie := own_lie' (s := ⟨_, ml, _⟩) Nm.enc_len hmo
          obtain ⟨b9, o9, h9, -, p0, p1⟩ := hlie.nm hp
          simp only [Option.some.injEq, Addr.mk.injEq, and_true] at h9
          obtain ⟨rfl, rfl⟩ := h9
          simp only [Nat.zero_add] at p0 p1
          have HTM : Hid (paM ((xy / 6 % 2 : Nat) : Int) ml ((pl.take 5).take (k + 1)) = paM ((xy / 6 % 2 : Nat) : Int) ml ((pl.take 5).take k) ++ [(⟨⟨py, pn⟩, fb, dd⟩ : Pa)]) := Lib.hid (by
            have h1 : (pl.take 5)[k]? = some c := by rw [List.getElem?_take, if_pos hk5]; exact hc
            unfold paM
            rw [if_neg hml, if_neg hml, List.take_add_one, h1, List.map_append]
            simp only [Option.toList_some, List.map_cons, List.map_nil]
            rw [hm, List.getD_eq_getElem?_getD, hp, hfb, hy6, hdd]
            rfl)
          have hb1 : c2' ≤ 255 := by omega
          have hb3 : y6 ≤ 255 := by omega
          have hb2 : r2 ≤ 1 := by omega
          have hb4 : dd ≤ 1 := by omega
          have hwc : IntKind.i64.wrap (c2' : Int) = (c2' : Int) := IntWalk.i64_in _ (by omega)
          have hwu : IntKind.u8.wrap (c2' : Int) = (c2' : Int) := IntWalk.u8_in _ (by omega)
          have hwy : IntKind.u8.wrap (y6 : Int) = (y6 : Int) := IntWalk.u8_in _ (by omega)
          have hwr : IntKind.u8.wrap (r2 : Int) = (r2 : Int) := IntWalk.u8_in _ (by omega)
          have hwd : IntKind.u8.wrap (dd : Int) = (dd : Int) := IntWalk.u8_in _ (by omega)
          have hwm : IntKind.i64.wrap (m : Int) = (m : Int) := IntWalk.i64_in _ (by have h := (ofL_free HS.out.2).2; rw [List.length_take] at h; omega)
          clear hp hc hm hlie hfb hr2 hy6 hdd hc2' hmo
          have hPl : (paM ((xy / 6 % 2 : Nat) : Int) ml ((pl.take 5).take k)).length ≤ 5 := by
            have h := paM_len ((xy / 6 % 2 : Nat) : Int) ml ((pl.take 5).take k)
            rw [List.length_take, List.length_take] at h
            omega
          obtain ⟨PL, hPL⟩ : ∃ PL, paM ((xy / 6 % 2 : Nat) : Int) ml ((pl.take 5).take k) = PL := ⟨_, rfl⟩
          rw [hPL] at HJ HTM hPl
          have hJ := HJ.out.1
          have x3 : wr.cell? ⟨LB, 3, none⟩ = some (.slice ya PL.length yc) := hJ.c3
          have hszL : LB + 1 ≤ wr.heap.size := hJ.lt
          have hmbl : mb < LB := by have h := (HS.out.1.made.lt mb rfl).2; have := HLB.out; omega
          have hLw : LB < wr.heap.size := by omega
          have hmw : mb < wr.heap.size := by omega
          have hbw : b < wr.heap.size := by have := HBL.out; omega
          have HHJ := Lib.hid hJ
          have Zhwc := Lib.hid hwc
          have Zhwu := Lib.hid hwu
          have Zhwy := Lib.hid hwy
          have Zhwr := Lib.hid hwr
          have Zhwd := Lib.hid hwd
          have Zhwm := Lib.hid hwm
          have Zhd1 := Lib.hid hd1
          have Zhmr := Lib.hid hmr
          have Zhrr := Lib.hid hrr
          have Zhreq := Lib.hid hreq
          have Zhd6 := Lib.hid hd6
          have Zhdr := Lib.hid hdr
          have Zhmn := Lib.hid hmn
          have hm2 : m * 2 = 0 + m * 2 := by omega
          rw [hm2] at p0 p1
          have HPP := Lib.hid (And.intro p0 (And.intro p1 c0))
          clear hPL hJ hm2 hmbl hwc hwu hwy hwr hwd hwm hd1 hmr hrr hreq hd6 hdr hmn p0 p1 c0 c1 c2 c3 hmb hb1 hb2 hb3 hb4
          go_upto_region 20 with fail
          have hwc := Zhwc.out
          have hwu := Zhwu.out
          have hwy := Zhwy.out
          have hwr := Zhwr.out
          have hwd := Zhwd.out
          have hwm := Zhwm.out
          have hd1 := Zhd1.out
          have hmr := Zhmr.out
          have hrr := Zhrr.out
          have hreq := Zhreq.out
          have hd6 := Zhd6.out
          have hdr := Zhdr.out
          have hmn := Zhmn.out
          obtain ⟨p0, p1, c0⟩ := HPP.out
          refine rgT2 23 [some 130, some 131, some 132, some 133, some 134, some 135, some 136, some 137, some 138, some 139, some 140, some 141, some 142, some 143, some 144, some 145, some 146, some 147, some 148, some 149, some 150, some 151, some 152, some 153, some 154, none] (psi20 LB mb m ml.length mc b o i n cap c c2' r2 y6 dd xy fb ya PL.length yc py pn wr.heap.size) (fun w' => RowKit.Below wr.heap.size wr w') (by kernel_rfl) (by kernel_rfl) (by kernel_rfl) (by kernel_rfl) (psi20_stab LB mb m ml.length mc b o i n cap c c2' r2 y6 dd xy fb ya PL.length yc py pn wr.heap.size) (fun _ _ h hb => h.trans (hb.mono h.size)) (fun i9 o9 hi9 ho9 aq9 w1 hs hout hI hdep => ?_) ?_ ((Below.refl _ _).drew)
          · skip
            match i9, hi9, ho9 with
            | 0, _, ho9 =>
              obtain rfl := Option.some.inj ho9
              refine .inl ⟨rfl, fun K hK => ?_⟩
              exact fa45_3 rfl ((hout 9 rfl).trans rfl) (hK _ _ (Below.refl _ _) rfl)
            | 1, _, ho9 =>
              obtain rfl := Option.some.inj ho9
              have dq0 : (aq9.tmps.getD 130 undef) = .pointer (some ⟨LB, 3, none⟩) := hdep ⟨0, .data⟩ (by simp) rfl _ rfl
              refine .inl ⟨rfl, fun K hK => ?_⟩
              exact ld43 rfl dq0 ((hI.cell (p := ⟨LB, 3, none⟩) hLw).trans x3) (hK _ _ (Below.refl _ _) rfl)
            | 2, _, ho9 =>
              obtain rfl := Option.some.inj ho9
              refine .inl ⟨rfl, fun K hK => ?_⟩
              exact st_move rfl ((hout 6 rfl).trans rfl) (hK _ _ (Below.refl _ _) rfl)
            | 3, _, ho9 =>
              obtain rfl := Option.some.inj ho9
              refine .inl ⟨rfl, fun K hK => ?_⟩
              exact st_move rfl ((hout 13 rfl).trans rfl) (hK _ _ (Below.refl _ _) rfl)
            | 4, _, ho9 =>
              obtain rfl := Option.some.inj ho9
              have dq3 : (aq9.tmps.getD 133 undef) = .int .u8 c := hdep ⟨3, .data⟩ (by simp) rfl _ rfl
              refine .inl ⟨rfl, fun K hK => ?_⟩
              exact st_quo5 rfl dq3 rfl (by decide) hd1 hwu (hK _ _ (Below.refl _ _) rfl)
            | 5, _, ho9 =>
              obtain rfl := Option.some.inj ho9
              have dq4 : (aq9.tmps.getD 134 undef) = .int .u8 c2' := hdep ⟨4, .data⟩ (by simp) rfl _ rfl
              refine .inl ⟨rfl, fun K hK => ?_⟩
              exact st_conv53 rfl dq4 hwc (hK _ _ (Below.refl _ _) rfl)
            | 6, _, ho9 =>
              obtain rfl := Option.some.inj ho9
              refine .inl ⟨rfl, fun K hK => ?_⟩
              exact st_move rfl ((hout 6 rfl).trans rfl) (hK _ _ (Below.refl _ _) rfl)
            | 7, _, ho9 =>
              obtain rfl := Option.some.inj ho9
              have dq6 : (aq9.tmps.getD 136 undef) = .slice (some ⟨mb, 0, none⟩) ml.length mc := hdep ⟨6, .data⟩ (by simp) rfl _ rfl
              refine .inl ⟨rfl, fun K hK => ?_⟩
              exact st_len26 rfl dq6 (hK _ _ (Below.refl _ _) rfl)
            | 8, _, ho9 =>
              obtain rfl := Option.some.inj ho9
              have dq5 : (aq9.tmps.getD 135 undef) = .int .i64 c2' := hdep ⟨5, .data⟩ (by simp) rfl _ rfl
              have dq7 : (aq9.tmps.getD 137 undef) = .int .i64 ml.length := hdep ⟨7, .data⟩ (by simp) rfl _ rfl
              refine .inl ⟨rfl, fun K hK => ?_⟩
              exact st_remL rfl dq5 dq7 hmn hmr hwm (hK _ _ (Below.refl _ _) rfl)
            | 9, _, ho9 =>
              obtain rfl := Option.some.inj ho9
              have dq2 : (aq9.tmps.getD 132 undef) = .slice (some ⟨mb, 0, none⟩) ml.length mc := hdep ⟨2, .data⟩ (by simp) rfl _ rfl
              have dq8 : (aq9.tmps.getD 138 undef) = .int .i64 m := hdep ⟨8, .data⟩ (by simp) rfl _ rfl
              refine .inl ⟨rfl, fun K hK => ?_⟩
              exact st_idx61 (k := m) rfl dq2 dq8 hmll (hK _ _ (Below.refl _ _) rfl)
            | 10, _, ho9 =>
              obtain rfl := Option.some.inj ho9
              have dq9 : (aq9.tmps.getD 139 undef) = .pointer (some ⟨mb, 0 + m * 2, none⟩) := hdep ⟨9, .data⟩ (by simp) rfl _ rfl
              refine .inl ⟨rfl, fun K hK => ?_⟩
              exact ld36 (p := ⟨py, pn⟩) rfl dq9 ((hI.cell (p := ⟨mb, 0 + m * 2, none⟩) hmw).trans p0) ((hI.cell (p := ⟨mb, 0 + m * 2 + 1, none⟩) hmw).trans p1) (hK _ _ (Below.refl _ _) rfl)
            | 11, _, ho9 =>
              obtain rfl := Option.some.inj ho9
              refine .inl ⟨rfl, fun K hK => ?_⟩
              exact st_move rfl ((hout 13 rfl).trans rfl) (hK _ _ (Below.refl _ _) rfl)
            | 12, _, ho9 =>
              obtain rfl := Option.some.inj ho9
              have dq11 : (aq9.tmps.getD 141 undef) = .int .u8 c := hdep ⟨11, .data⟩ (by simp) rfl _ rfl
              refine .inl ⟨rfl, fun K hK => ?_⟩
              exact st_rem5 rfl dq11 rfl (by decide) hrr hwr (hK _ _ (Below.refl _ _) rfl)
            | 13, _, ho9 =>
              obtain rfl := Option.some.inj ho9
              have dq12 : (aq9.tmps.getD 142 undef) = .int .u8 r2 := hdep ⟨12, .data⟩ (by simp) rfl _ rfl
              refine .inl ⟨rfl, fun K hK => ?_⟩
              exact st_eql5 rfl dq12 rfl hreq (hK _ _ (Below.refl _ _) rfl)
            | 14, _, ho9 =>
              obtain rfl := Option.some.inj ho9
              refine .inl ⟨rfl, fun K hK => ?_⟩
              exact st_move rfl ((hout 0 rfl).trans rfl) (hK _ _ (Below.refl _ _) rfl)
            | 15, _, ho9 =>
              obtain rfl := Option.some.inj ho9
              refine .inl ⟨rfl, fun K hK => ?_⟩
              exact st_move rfl ((hout 7 rfl).trans rfl) (hK _ _ (Below.refl _ _) rfl)
            | 16, _, ho9 =>
              obtain rfl := Option.some.inj ho9
              have dq14 : (aq9.tmps.getD 144 undef) = .slice (some ⟨b, o, none⟩) n cap := hdep ⟨14, .data⟩ (by simp) rfl _ rfl
              have dq15 : (aq9.tmps.getD 145 undef) = .int .i64 i := hdep ⟨15, .data⟩ (by simp) rfl _ rfl
              refine .inl ⟨rfl, fun K hK => ?_⟩
              exact st_idx23 (k := i) rfl dq14 dq15 hi1 (hK _ _ (Below.refl _ _) rfl)
            | 17, _, ho9 =>
              obtain rfl := Option.some.inj ho9
              have dq16 : (aq9.tmps.getD 146 undef) = .pointer (some ⟨b, o + i * 5, none⟩) := hdep ⟨16, .data⟩ (by simp) rfl _ rfl
              refine .inl ⟨rfl, fun K hK => ?_⟩
              exact fa66_0 rfl dq16 (hK _ _ (Below.refl _ _) rfl)
            | 18, _, ho9 =>
              obtain rfl := Option.some.inj ho9
              have dq17 : (aq9.tmps.getD 147 undef) = .pointer (some ⟨b, o + i * 5, none⟩) := hdep ⟨17, .data⟩ (by simp) rfl _ rfl
              refine .inl ⟨rfl, fun K hK => ?_⟩
              exact ld5 rfl dq17 ((hI.cell (p := ⟨b, o + i * 5, none⟩) hbw).trans c0) (hK _ _ (Below.refl _ _) rfl)
            | 19, _, ho9 =>
              obtain rfl := Option.some.inj ho9
              have dq18 : (aq9.tmps.getD 148 undef) = .int .u8 xy := hdep ⟨18, .data⟩ (by simp) rfl _ rfl
              refine .inl ⟨rfl, fun K hK => ?_⟩
              exact st_quo5 rfl dq18 rfl (by decide) hd6 hwy (hK _ _ (Below.refl _ _) rfl)
            | 20, _, ho9 =>
              obtain rfl := Option.some.inj ho9
              have dq19 : (aq9.tmps.getD 149 undef) = .int .u8 y6 := hdep ⟨19, .data⟩ (by simp) rfl _ rfl
              refine .inl ⟨rfl, fun K hK => ?_⟩
              exact st_rem5 rfl dq19 rfl (by decide) hdr hwd (hK _ _ (Below.refl _ _) rfl)
            | 21, _, ho9 =>
              obtain rfl := Option.some.inj ho9
              have dq10 : (aq9.tmps.getD 140 undef) = (Nm.v ⟨py, pn⟩) := hdep ⟨10, .data⟩ (by simp) rfl _ rfl
              have dq13 : (aq9.tmps.getD 143 undef) = .bool fb := hdep ⟨13, .data⟩ (by simp) rfl _ rfl
              have dq20 : (aq9.tmps.getD 150 undef) = .int .u8 dd := hdep ⟨20, .data⟩ (by simp) rfl _ rfl
              refine .inl ⟨rfl, fun K hK => ?_⟩
              exact st_build56 rfl dq10 dq13 dq20 (hK _ _ (Below.refl _ _) rfl)
            | 22, _, ho9 =>
              obtain rfl := Option.some.inj ho9
              have dq21 : (aq9.tmps.getD 151 undef) = (Pa.v ⟨⟨py, pn⟩, fb, dd⟩) := hdep ⟨21, .data⟩ (by simp) rfl _ rfl
              refine .inl ⟨rfl, fun K hK => ?_⟩
              exact st_bs43 rfl dq21 (hK _ _ (below1 w1 _) ⟨w1.heap.size, rfl, hI.size, by simp, heap_alloc_new w1 _⟩)
            | i9 + 23, hi9, _ => exact absurd hi9 (by omega)
          · intro a2 w9 hs hd hout hI hall
            obtain ⟨tmps, defers⟩ := a2
            have e_131 : (tmps.getD 131 undef) = .slice ya PL.length yc := hall 1 _ (by decide) rfl
            have e22 : psi20 LB mb m ml.length mc b o i n cap c c2' r2 y6 dd xy fb ya PL.length yc py pn wr.heap.size 22 (tmps.getD 152 undef) w9 := hall 22 _ (by decide) rfl
            obtain ⟨B, e_152, hB1, hB2, hB3⟩ := e22
            simp only at hs hd hout
            have ef := frameAt [some 130, some 131, some 132, some 133, some 134, some 135, some 136, some 137, some 138, some 139, some 140, some 141, some 142, some 143, some 144, some 145, some 146, some 147, some 148, some 149, some 150, some 151, some 152, some 153, some 154, none] _ tmps hs hout
            obtain ⟨sv20, hu⟩ : ∃ sv20 : Nat → Value, sv20 = fun s => tmps.getD s undef := ⟨_, rfl⟩
            have eu_131 : sv20 131 = .slice ya PL.length yc := by rw [hu]; exact e_131
            have eu_152 : sv20 152 = .slice (some ⟨B, 0, none⟩) 1 1 := by rw [hu]; exact e_152
            rw [← hu] at ef
            have ef2 : tmps = #[Value.slice (some ⟨b, o, none⟩) n cap, undef, Value.slice none 0 0, Value.slice none 0 0, Value.slice (some ⟨BT, 0, none⟩) 6 6, Value.slice ga gl.length gc, Value.slice (some ⟨mb, 0, none⟩) ml.length mc, Value.int IntKind.i64 i, Value.int IntKind.i64 q, Value.pointer (some ⟨LB, 0, none⟩), Value.int IntKind.i64 kx, u11, Value.int IntKind.i64 k, Value.int IntKind.u8 c, u14, Value.slice (some ⟨BT, 0, none⟩) 6 6, u16, u17, u18, u19, u20, u21, u22, u23, u24, u25, u26, u27, u28, u29, u30, u31, u32, u33, u34, u35, u36, u37, u38, u39, u40, u41, u42, u43, u44, u45, u46, u47, u48, u49, u50, u51, u52, u53, u54, u55, u56, u57, u58, u59, u60, u61, u62, u63, u64, u65, u66, u67, u68, u69, u70, u71, u72, u73, u74, u75, u76, u77, u78, u79, u80, u81, u82, u83, u84, u85, u86, u87, u88, u89, u90, u91, u92, u93, u94, u95, u96, u97, u98, u99, u100, u101, u102, Value.int IntKind.i64 k, Value.slice (some ⟨b, o, none⟩) n cap, Value.int IntKind.i64 i, Value.pointer (some ⟨b, o + i * 5, none⟩), Value.pointer (some ⟨b, o + i * 5 + 4, none⟩), Value.slice (some ⟨pb, po, none⟩) pl.length pc, Value.int IntKind.i64 pl.length, Value.bool true, Value.bool true, Value.int IntKind.i64 k, Value.bool true, Value.bool true, Value.bool true, Value.slice (some ⟨mb, 0, none⟩) ml.length mc, Value.int IntKind.i64 ml.length, Value.bool true, Value.bool true, u120, u121, Value.slice (some ⟨b, o, none⟩) n cap, Value.int IntKind.i64 i, Value.pointer (some ⟨b, o + i * 5, none⟩), Value.pointer (some ⟨b, o + i * 5 + 4, none⟩), Value.slice (some ⟨pb, po, none⟩) pl.length pc, Value.int IntKind.i64 k, Value.pointer (some ⟨pb, po + k, none⟩), Value.int IntKind.u8 c, (sv20 130), (sv20 131), (sv20 132), (sv20 133), (sv20 134), (sv20 135), (sv20 136), (sv20 137), (sv20 138), (sv20 139), (sv20 140), (sv20 141), (sv20 142), (sv20 143), (sv20 144), (sv20 145), (sv20 146), (sv20 147), (sv20 148), (sv20 149), (sv20 150), (sv20 151), (sv20 152), (sv20 153), (sv20 154), u155, u156, u157, u158, u159, u160, u161, u162, u163, u164, u165, u166, u167, u168, u169, u170, u171, u172, u173, u174, u175, u176, u177, u178, u179, u180, u181, undef, undef] := ef
            subst hd
            rw [eu_131, eu_152] at ef2
            rw [ef2]
            clear ef ef2 hu hs hout hall e_131 eu_131 e_152 eu_152
            simp only [List.drop_succ_cons, List.drop_zero]
            have hJ9 := HHJ.out.below hI
            have hBJ9 : Below LB wI w9 := HJ.out.2.trans (hI.mono (by omega))
            have hrec : Rec Pa.enc w9 B ⟨⟨py, pn⟩, fb, dd⟩ := fun j u h => by
              rw [cell_of_row _ _ j _ 56 (0, 0) hB3]; simpa using h
            refine wpList_app_rec kdPa (l := PL) (x := ⟨⟨py, pn⟩, fb, dd⟩) rfl rfl rfl rfl hJ9.pa hrec (by omega) (by have := hI.size; omega) ?_
            intro v5 w5 ho5 hg5 hat5
            obtain ⟨⟨a5, l5, c5⟩, rfl, -⟩ := own_lie Pa.enc_len ho5 rfl
            obtain ⟨-, t5, f5⟩ := hJ9.after hg5 (fun e => hJ9.pne _ e rfl)
            have f53 := f5 3
            have HB5 := Lib.hid ((hBJ9.grown hg5 (by have := hI.size; omega) (fun g e => by have := (hJ9.pa.lt g e).1; omega)))
            have HJ9 := Lib.hid hJ9
            clear hwc hwu hwy hwr hwd hwm hd1 hmr hrr hreq hd6 hdr hmn p0 p1 c0 x3
            simp only [Sl.v] at t5 ho5 hat5 ⊢
            have HA5 := Lib.hid (And.intro ho5 (And.intro hg5 hat5))
            clear ho5 hg5 hat5 f5 hJ9 hBJ9 hrec
            go_wp2_with fail
            go_roundg (6 - (k + 1))
            case measure => have := HG2.out; omega
            case rel =>
              obtain ⟨⟨a6, l6, c6⟩, hv, hl, hI⟩ := HJ9.out.appPa HA5.out.2.1 HA5.out.1 HA5.out.2.2
              have hl' : l6 = PL ++ [(⟨⟨py, pn⟩, fb, dd⟩ : Pa)] := hl
              rw [← HTM.out] at hl'
              subst hl'
              exact ⟨a6, c6, k + 1, by go_num, by omega, by omega, Lib.hid ⟨hI, HB5.out.setCell (Nat.le_refl _) _⟩⟩
      · have hkz5 : ¬ (k : Int) < 5 := by omega
        have hE : Hid ((pl.take 5).take k = pl.take 5) := Lib.hid (List.take_of_length_le (by rw [List.length_take]; omega))
        go_wp2_with fail
        exact hK ya yc k _ _ _ _ _ _ _ _ _ _ _ _ _ _ _ _ _ _ _ _ _ _ _ _ _ _ _ _ _ _ _ _ _ _ _ _ _ _ _ _ _ _ _ _ _ _ _ _ _ _ _ _ _ _ _ _ _ _ _ _ _ _ _ _ _ _ _ _ _ _ _ _ _ _ _ _ _ _ _ _ _ _ _ _ _ _ _ _ _ _ _ _ _ _ _ _ _ _ _ _ _ _ _ _ _ _ _ _ _ _ _ _ _ _ _ _ _ _ _ _ _ _ _ _ _ _ _ _ _ _ _ _ _ _ _ _ _ _ _ _ _ _ _ _ _ _ _ _ _ _ _ _ _ _ _ _ _ _ _ _ _ _ _ _ _ _ _ _ (Lib.hid ⟨by have h := HJ.out.1; rw [hE.out] at h; exact h, HJ.out.2⟩)
    · have hkz : ¬ (k : Int) < (pl.length : Int) := by omega
      have hE : Hid ((pl.take 5).take k = pl.take 5) := Lib.hid (List.take_of_length_le (by rw [List.length_take]; omega))
      go_wp2_with fail
      exact hK ya yc k _ _ _ _ _ _ _ _ _ _ _ _ _ _ _ _ _ _ _ _ _ _ _ _ _ _ _ _ _ _ _ _ _ _ _ _ _ _ _ _ _ _ _ _ _ _ _ _ _ _ _ _ _ _ _ _ _ _ _ _ _ _ _ _ _ _ _ _ _ _ _ _ _ _ _ _ _ _ _ _ _ _ _ _ _ _ _ _ _ _ _ _ _ _ _ _ _ _ _ _ _ _ _ _ _ _ _ _ _ _ _ _ _ _ _ _ _ _ _ _ _ _ _ _ _ _ _ _ _ _ _ _ _ _ _ _ _ _ _ _ _ _ _ _ _ _ _ _ _ _ _ _ _ _ _ _ _ _ _ _ _ _ _ _ _ _ _ _ (Lib.hid ⟨by have h := HJ.out.1; rw [hE.out] at h; exact h, HJ.out.2⟩)
end Go.Proofs.Ytgaofkbmnapogaa
namespace Go.Proofs.Ytgaofkbmnapogaa
open Go.RowKit Go.Sort
set_option maxRecDepth 100000
set_option maxHeartbeats 8000000
theorem of_any (s : Sl Lu) (w : World) (h : s.lie Lu.enc w.heap.size w) (hx : ∀ x ∈ s.l, x.ok w.heap.size w) :
    Calls Try.prog 8 #[s.v] w (OfR (s.l.map Lu.li) w) := by
  obtain ⟨ao, ls, cap⟩ := s
  have HL := Lib.hid h
  have HX := Lib.hid hx
  simp only at HX
  simp only [Sl.v]
  clear h hx
  obtain ⟨n, hn⟩ : ∃ n, ls.length = n := ⟨_, rfl⟩
  rw [hn]
  have HN := Lib.hid hn
  clear hn
  have hm := kdRow.make 6 6 rfl (by omega) w
  rw [zrow6] at hm
  have hS := OfS.start w
  obtain ⟨O, hO⟩ : ∃ O, (rcells rowEnc (List.replicate 6 nilSl)).toArray = O := ⟨_, rfl⟩
  rw [hO] at hm hS
  have HS := Lib.hid hS
  clear hO hS
  obtain ⟨BT, hBT⟩ : ∃ BT, w.heap.size = BT := ⟨_, rfl⟩
  have HBT := Lib.hid hBT
  rw [hBT] at HS HL HX hm
  go_enter Try.func8, Try.ntmps8
  go_wp2_with fail
  have hb0 := below1 w (.cells O 37)
  rw [hBT] at hb0
  obtain ⟨W0, hW0⟩ : ∃ W0, w.alloc (.cells O 37) = W0 := ⟨_, rfl⟩
  rw [hW0] at HS hb0 ⊢
  have HB0 := Lib.hid hb0
  clear hb0 hm hBT hW0
  go_loopg [5, 6, 7] 61 (fun g v5 v6 v7 wr => ∃ (i : Nat) (F : Nat → Prop) (rs : List (Sl Lp)) (fa : Option Addr) (fl : List Nm) (fc : Nat) (ma : Option Addr) (ml : List Nm) (mc : Nat) (T : List (List Lq)), v5 = .slice fa fl.length fc ∧ v6 = .slice ma ml.length mc ∧ v7 = .int .i64 i ∧ i ≤ n ∧ i ≤ 60 ∧ g = 61 - i ∧
    Hid (OfS BT F wr rs (.slice fa fl.length fc) (.slice ma ml.length mc) T fl ml ∧ (⟨T, fl, ml⟩ : St) = ofL ((ls.map Lu.li).take i)) ∧ Hid (Below BT w wr))
  case atStart => exact ⟨0, _, _, none, [], 0, none, [], 0, _, rfl, rfl, rfl, by omega, by omega, by omega, Lib.hid ⟨HS.out, rfl⟩, HB0⟩
  case round =>
    clear HS HB0
    obtain ⟨i, F, rs, fa, fl, fc, ma, ml, mc, T, rfl, rfl, rfl, hin, hi60, hg, HS, HB⟩ := hrel
    obtain ⟨wI, rfl⟩ : ∃ wI, wI = wr := ⟨wr, rfl⟩
    obtain ⟨G, hG⟩ : ∃ G, G = gk := ⟨_, rfl⟩
    have HG := Lib.hid (hG.trans hg)
    have HGK := Lib.hid hG
    clear hg hG
    by_cases hgo : i < n ∧ i < 60
    · obtain ⟨hi1, hi2⟩ := hgo
      have z1 : (i : Int) < (n : Int) := by omega
      have z2 : (i : Int) < 60 := by omega
      have hil : i < ls.length := by rw [HN.out]; exact hi1
      obtain ⟨x, hx⟩ : ∃ x, ls[i]? = some x := ⟨ls[i], List.getElem?_eq_getElem hil⟩
      have HXO := Lib.hid (HX.out x (List.mem_of_getElem? hx))
      obtain ⟨xy, xb, xn, ⟨ta, tl, tc⟩, ⟨pa, pl, pc⟩⟩ := x
      have HC : Hid (∀ W, Below BT w W → ∃ b o, ao = some ⟨b, o, none⟩ ∧ b < BT ∧ W.cell? ⟨b, o + i * 5, none⟩ = some (.int .u8 xy) ∧ W.cell? ⟨b, o + i * 5 + 1, none⟩ = some (.bool xb) ∧ W.cell? ⟨b, o + i * 5 + 2, none⟩ = some (.bool xn) ∧ W.cell? ⟨b, o + i * 5 + 3, none⟩ = some (.slice ta tl.length tc) ∧ W.cell? ⟨b, o + i * 5 + 4, none⟩ = some (.slice pa pl.length pc)) := Lib.hid fun W hW => (HL.out.below hW).lu hx
      obtain ⟨b, o, hao, hbl, c0, c1, c2, c3, c4⟩ := HC.out _ HB.out
      obtain rfl : ao = some ⟨b, o, none⟩ := hao
      have hyb : xy ≤ 255 := HXO.out.yb
      obtain ⟨q, hq⟩ : ∃ q, xy % 6 = q := ⟨_, rfl⟩
      have hq6 : q < 6 := by omega
      have hr1 : Int.tmod (xy : Int) 6 = (q : Int) := by rw [← hq]; rfl
      obtain ⟨⟨ra, rl, rc⟩, hr, hrs⟩ := HS.out.1.sem.get hq6
      have cT := HS.out.1.fill.cell hr
      simp only [Sl.v] at cT
      obtain ⟨nwv, hnw⟩ : ∃ nwv, (xn || (T.getD q []).isEmpty) = nwv := ⟨_, rfl⟩
      have HNW := Lib.hid hnw
      have HQ := Lib.hid hq
      have HR := Lib.hid hr
      have HRS : Hid (rl.map Lp.q = T.getD q []) := Lib.hid hrs
      have HXI := Lib.hid hx
      clear hq hr hrs hnw hx hil
      go_upto_region 7 with fail
      obtain ⟨LB, hLB⟩ : ∃ LB, wI.heap.size = LB := ⟨_, rfl⟩
      go_cut [9] from 16 to 181 (fun p9 wx => p9 = .pointer (some ⟨LB, 0, none⟩) ∧ wx = wI.alloc (.cells #[.int .u8 0, .bool nwv, .slice none 0 0, .slice none 0 0] 45))
      case first =>
        subst hLB
        cases xn with
        | true =>
          obtain rfl : true = nwv := HNW.out
          go_wp2_with fail
          go_meet
          exact ⟨rfl, rfl⟩
        | false =>
          by_cases hrl : rl = []
          · subst hrl
            obtain rfl : true = nwv := by rw [← HNW.out, ← HRS.out]; rfl
            go_wp2_with fail
            go_meet
            exact ⟨rfl, rfl⟩
          · have hln : 0 < rl.length := List.length_pos_iff.2 hrl
            have hz : ¬ (rl.length : Int) = 0 := by omega
            have hzb : ((rl.length : Int) == 0) = false := by simpa using hrl
            obtain rfl : false = nwv := by
              rw [← HNW.out, ← HRS.out]
              cases rl with
              | nil => exact absurd rfl hrl
              | cons a l => rfl
            go_wp2_with fail
            go_meet
            exact ⟨rfl, rfl⟩
      case rest =>
        obtain ⟨rfl, rfl⟩ := hcut
        have hob := heap_alloc_new wI (.cells #[.int .u8 0, .bool nwv, .slice none 0 0, .slice none 0 0] 45)
        have hb1 := below1 wI (.cells #[.int .u8 0, .bool nwv, .slice none 0 0, .slice none 0 0] 45)
        have hBL : BT < wI.heap.size := HS.out.1.fill.lt
        have hB1 := HB.out.alloc (Nat.le_of_lt hBL) (.cells #[.int .u8 0, .bool nwv, .slice none 0 0, .slice none 0 0] 45)
        obtain ⟨W1, hW1⟩ : ∃ W1, wI.alloc (.cells #[.int .u8 0, .bool nwv, .slice none 0 0, .slice none 0 0] 45) = W1 := ⟨_, rfl⟩
        rw [hW1] at hob hb1 hB1 ⊢
        rw [hLB] at hob hb1 hBL
        clear hW1 c0 c1 c2 c3 c4 cT
        obtain ⟨b', o', hao, -, c0, c1, c2, c3, c4⟩ := HC.out _ hB1
        cases hao
        have HB1 := Lib.hid hb1
        have HBB := Lib.hid hB1
        have HBL := Lib.hid hBL
        have HLB := Lib.hid hLB
        have e0 : W1.cell? ⟨LB, 0, none⟩ = some (.int .u8 0) := by simp [World.cell?, hob]
        have f0 : W1.frozen? ⟨LB, 0, none⟩ = false := by simp [World.frozen?, hob]
        have HOB := Lib.hid hob
        obtain ⟨bd, hbd⟩ : ∃ bd : Int, (if xb then 1 else 0 : Int) = bd := ⟨_, rfl⟩
        have HBD := Lib.hid hbd
        have HB01 : Hid (0 ≤ bd ∧ bd ≤ 255) := Lib.hid (by rw [← hbd]; cases xb <;> decide)
        clear hob hb1 hB1 hBL hLB hbd
        go_upto_if 51 with fail
        go_cut [7] from 16 to 181 (fun v7 wx => v7 = .int .i64 i ∧ Hid (InB LB BT bd nwv (.slice fa fl.length fc) wx ⟨fa, fl, fc⟩ Sl.nil Sl.nil ∧ Below LB wI wx))
        case first =>
          have hfr := below_owns HS.out.1.free (by rw [HLB.out]; exact HB1.out)
          have hlt : ∀ g, (Value.slice fa fl.length fc).ownBlock = some g → g < LB := fun g e => by have := (HS.out.1.free.lt g e).2; have := HLB.out; omega
          have HI : Hid (InB LB BT 0 nwv (.slice fa fl.length fc) W1 ⟨fa, fl, fc⟩ Sl.nil Sl.nil) := Lib.hid ⟨HOB.out, World.ownsRow_nil _ _ _ _, World.ownsRow_nil _ _ _ _, hfr, fun g e e2 => (by cases e2), fun g e e2 => (by cases e2), fun g e => (by cases e), fun g e => ⟨by have := hlt g e; omega, .inl e⟩⟩
          clear hfr hlt
          cases xb with
          | true =>
            obtain rfl : 1 = bd := HBD.out
            go_wp2_with fail
            go_meet
            refine ⟨rfl, Lib.hid ⟨⟨?_, World.ownsRow_nil _ _ _ _, World.ownsRow_nil _ _ _ _, own_keep HI.out.fr (grownBy_setCellAt W1 LB 0 _) fun g e e2 => (HI.out.old g e).1 (Option.some.inj e2).symm, HI.out.ft, HI.out.fp, HI.out.tp, HI.out.old⟩, HB1.out.setCell (Nat.le_refl _) _⟩⟩
            rw [heap_setCell_same W1 LB 0 _ 45 _ HOB.out]; rfl
          | false =>
            obtain rfl : 0 = bd := HBD.out
            go_wp2_with fail
            go_meet
            exact ⟨rfl, Lib.hid ⟨HI.out, HB1.out⟩⟩
        case rest =>
          obtain ⟨rfl, HI⟩ := hcut
          clear c0 c1 c2 c3 c4 e0 f0 HOB HB1
          obtain ⟨TF, hTF⟩ : ∃ TF, thM (tl.take 4) fl = TF := ⟨_, rfl⟩
          have HTF := Lib.hid hTF
          clear hTF
          go_upto_block 2 with fail
          refine of_in1 b o n cap BT LB fa fl fc ma ml mc i q bd nwv xy xb xn ta tl tc pa pl pc w wI wc TF _ _ _ _ _ _ _ _ _ _ _ _ _ _ _ _ _ _ _ _ _ _ _ _ _ _ _ _ _ _ _ _ _ _ _ _ _ _ _ _ _ _ _ _ _ _ _ _ _ _ _ _ _ _ _ _ _ _ _ _ _ _ _ _ _ _ _ _ _ _ _ _ _ _ _ _ _ _ _ _ _ _ _ _ _ _ _ _ _ _ _ _ _ _ _ _ _ _ _ _ _ _ _ _ _ _ _ _ _ _ _ _ _ _ _ _ _ _ _ _ _ _ _ _ _ _ _ _ _ _ _ _ _ _ _ _ _ _ _ _ _ _ _ _ _ _ _ _ _ _ _ _ _ _ _ _ _ _ _ _ _ _ _ _ _ _ _ _ _ _ HXO HC HB HBL hi1 z1 HI HTF (by have h := (ofL_free HS.out.2).1; rw [List.length_take] at h; omega) _ _ ?_
          intro ga gl gc sa sl sc kx v16 v17 v18 v19 v20 v21 v22 v23 v24 v25 v26 v27 v28 v29 v30 v31 v32 v33 v34 v35 v36 v37 v38 v39 v40 v41 v42 v43 v44 v45 v46 v47 v48 v49 v50 v51 v52 v53 v54 v55 v56 v57 v58 v59 v60 v61 v62 v63 v64 v65 v66 v67 v68 v69 v70 v71 v72 v73 v74 v75 v76 v77 v78 v79 v80 v81 v82 v83 v84 v85 v86 v87 v88 v89 v90 v91 v92 v93 v94 v95 v96 v97 v98 v99 v100 v101 v102 v103 v104 v105 v106 v107 v108 v109 v110 v111 v112 v113 v114 v115 v116 v117 v118 v119 v120 v121 v122 v123 v124 v125 v126 v127 v128 v129 v130 v131 v132 v133 v134 v135 v136 v137 v138 v139 v140 v141 v142 v143 v144 v145 v146 v147 v148 v149 v150 v151 v152 v153 v154 v155 v156 v157 v158 v159 v160 v161 v162 v163 v164 v165 v166 v167 v168 v169 v170 v171 v172 v173 v174 v175 v176 v177 v178 v179 v180 v181 v11 wx HI2
          clear HI
          go_upto_block 4 with fail
          refine of_in2 b o n cap BT LB fa fl fc ma ml mc i q bd nwv xy xb xn ta tl tc pa pl pc w wI wx F rs ls T TF ga gl gc sa sl sc kx _ _ _ _ _ _ _ _ _ _ _ _ _ _ _ _ _ _ _ _ _ _ _ _ _ _ _ _ _ _ _ _ _ _ _ _ _ _ _ _ _ _ _ _ _ _ _ _ _ _ _ _ _ _ _ _ _ _ _ _ _ _ _ _ _ _ _ _ _ _ _ _ _ _ _ _ _ _ _ _ _ _ _ _ _ _ _ _ _ _ _ _ _ _ _ _ _ _ _ _ _ _ _ _ _ _ _ _ _ _ _ _ _ _ _ _ _ _ _ _ _ _ _ _ _ _ _ _ _ _ _ _ _ _ _ _ _ _ _ _ _ _ _ _ _ _ _ _ _ _ _ _ _ _ _ _ _ _ _ _ _ _ _ _ _ _ _ _ _ HXO HC HB HBL hi1 z1 HS HLB hi60 hbl hyb HI2 _ _ ?_
          have HI := HI2
          clear HI2
          intro ya yc ky v16 v17 v18 v19 v20 v21 v22 v23 v24 v25 v26 v27 v28 v29 v30 v31 v32 v33 v34 v35 v36 v37 v38 v39 v40 v41 v42 v43 v44 v45 v46 v47 v48 v49 v50 v51 v52 v53 v54 v55 v56 v57 v58 v59 v60 v61 v62 v63 v64 v65 v66 v67 v68 v69 v70 v71 v72 v73 v74 v75 v76 v77 v78 v79 v80 v81 v82 v83 v84 v85 v86 v87 v88 v89 v90 v91 v92 v93 v94 v95 v96 v97 v98 v99 v100 v101 v102 v103 v104 v105 v106 v107 v108 v109 v110 v111 v112 v113 v114 v115 v116 v117 v118 v119 v120 v121 v122 v123 v124 v125 v126 v127 v128 v129 v130 v131 v132 v133 v134 v135 v136 v137 v138 v139 v140 v141 v142 v143 v144 v145 v146 v147 v148 v149 v150 v151 v152 v153 v154 v155 v156 v157 v158 v159 v160 v161 v162 v163 v164 v165 v166 v167 v168 v169 v170 v171 v172 v173 v174 v175 v176 v177 v178 v179 v180 v181 v13 wc HJ
          obtain ⟨PL, hPL⟩ : ∃ PL, paM ((xy / 6 % 2 : Nat) : Int) ml (pl.take 5) = PL := ⟨_, rfl⟩
          rw [hPL] at HJ
          obtain ⟨F', hO, hX⟩ := InB.join HS.out.1 HLB.out HJ.out.2 HJ.out.1 HBL.out (by
            have h := thM_len (tl.take 4) fl
            have h2 := congrArg (fun p => p.1.length) HI.out.2.2
            rw [← HTF.out] at h2
            rw [List.length_take] at h
            simp only at h2 ⊢
            omega) (by
            have h := paM_len ((xy / 6 % 2 : Nat) : Int) ml (pl.take 5)
            rw [hPL, List.length_take] at h
            simp only
            omega) (by
            intro p hp
            have hs : StOk (ofL ((ls.map Lu.li).take i)) := StOk.zero.fold _
            have h1 := thM_perm (tl.take 4) fl
            have h2 : (thM (tl.take 4) fl).1 = sl := by rw [HTF.out, HI.out.2.2]
            have h3 : p ∈ fl := h1.mem_iff.1 (List.mem_append_left _ (by rw [h2]; exact hp))
            rw [← HS.out.2] at hs
            have h4 : p ∈ ml := hs.perm.mem_iff.1 (List.mem_append_right _ h3)
            have h5 := (there_six hs.len ((hs.mem p).1 h4)).1
            unfold Nm.byte; omega) (by
            intro p hp
            have hs : StOk (ofL ((ls.map Lu.li).take i)) := StOk.zero.fold _
            rw [← HS.out.2] at hs
            simp only at hp
            rw [← hPL] at hp
            obtain ⟨h4, h6⟩ := paM_mem hp
            have h5 := (there_six hs.len ((hs.mem p.id).1 h4)).1
            unfold Nm.byte; omega) HB01.out
          have HPL := Lib.hid hPL
          have HO := Lib.hid (And.intro hO hX)
          have hLEN : Hid (fl.length ≤ 60 ∧ ml.length ≤ 60) := Lib.hid (by
            have h := ofL_free HS.out.2
            rw [List.length_take] at h
            omega)
          clear hPL hO hX
          have cT := HO.out.1.fill.cell HR.out
          simp only [Sl.v] at cT
          have hq0z : (0 : Int) ≤ (q : Int) := by omega
          have hq6z : (q : Int) < 6 := by omega
          have hwq : IntKind.i64.wrap ((q : Int) + 1) = (q : Int) + 1 := IntWalk.i64_in _ (by omega)
          have hwq8 : IntKind.u8.wrap ((q : Int) + 1) = (q : Int) + 1 := IntWalk.u8_in _ (by omega)
          go_upto_region 22 with fail
          obtain ⟨ID, hID⟩ : ∃ ID, wc.heap.size = ID := ⟨_, rfl⟩
          have hoi := heap_alloc_new wc (.cells #[.int .u8 ((q : Int) + 1), .int .i64 rl.length] 36)
          have hbi := below1 wc (.cells #[.int .u8 ((q : Int) + 1), .int .i64 rl.length] 36)
          obtain ⟨WJ, hWJ⟩ : ∃ WJ, wc.alloc (.cells #[.int .u8 ((q : Int) + 1), .int .i64 rl.length] 36) = WJ := ⟨_, rfl⟩
          rw [hWJ] at hoi hbi ⊢
          rw [hID] at hoi ⊢
          have HO2 := Lib.hid (HO.out.1.below hbi)
          have HX2 := Lib.hid (HO.out.2.kept (.of_below hbi))
          have HBX := Lib.hid (HJ.out.1.below hbi)
          have HBK : Hid (Below BT w WJ) := Lib.hid (HB.out.trans ((HJ.out.2.trans (hbi.mono (Nat.le_of_lt HJ.out.1.lt))).mono (Nat.le_of_lt HBL.out)))
          have HIDo : Hid (WJ.heap[ID]? = some (.cells #[.int .u8 ((q : Int) + 1), .int .i64 rl.length] 36 (0, 0))) := Lib.hid hoi
          have HIDl : Hid (LB < ID ∧ ID < WJ.heap.size) := Lib.hid ⟨by have := HJ.out.1.lt; omega, (Array.getElem?_eq_some_iff.1 hoi).1⟩
          have HIDf : Hid ((Value.slice ga gl.length gc).ownBlock ≠ some ID ∧ (Value.slice ma ml.length mc).ownBlock ≠ some ID) := Lib.hid ⟨fun e => by have h := (HO.out.1.free.lt ID e).2; omega, fun e => by have h := (HO.out.1.made.lt ID e).2; omega⟩
          have HIDn : Hid (∀ r ∈ rs, r.v.ownBlock ≠ some ID) := Lib.hid fun r hr e => by
            obtain ⟨j, hj⟩ := List.mem_iff_getElem?.1 hr
            have h := ((HS.out.1.fill.own j r hj).lt ID e).2
            have := HLB.out
            have := HJ.out.1.lt
            omega
          clear hWJ hoi hbi cT
          go_cut [8] from 16 to 181 (fun v8 wx => v8 = .int .i64 q ∧ ∃ (rs' : List (Sl Lp)), Hid (OfS BT F' wx rs' (.slice ga gl.length gc) (.slice ma ml.length mc) (putT T q ⟨bd, nwv, sl, PL⟩) gl ml ∧ wx.heap[ID]? = some (.cells #[.int .u8 ((q : Int) + 1), .int .i64 rl.length] 36 (0, 0)) ∧ Below BT w wx))
          case first =>
            have hT6 : T.length = 6 := by
              have hs : StOk (ofL ((ls.map Lu.li).take i)) := StOk.zero.fold _
              rw [← HS.out.2] at hs
              exact hs.len
            have HBD2 : Hid (InB LB BT bd nwv (.slice fa fl.length fc) WJ.drew ⟨ga, gl, gc⟩ ⟨sa, sl, sc⟩ ⟨ya, PL, yc⟩) := Lib.hid (HBX.out.below ((Below.refl _ _).drew))
            have HOD : Hid (OfS BT F' WJ.drew rs (.slice ga gl.length gc) (.slice ma ml.length mc) T gl ml) := Lib.hid (HO2.out.below ((Below.refl _ _).drew))
            have cT : WJ.drew.cell? ⟨BT, q, none⟩ = some (.slice ra rl.length rc) := HOD.out.fill.cell HR.out
            have cTa : (WJ.alloc (.cells #[.int .u8 bd, .bool nwv, .slice sa sl.length sc, .slice ya PL.length yc] 45)).drew.cell? ⟨BT, q, none⟩ = some (.slice ra rl.length rc) := (HOD.out.fill.below (below1 _ (.cells #[.int .u8 bd, .bool nwv, .slice sa sl.length sc, .slice ya PL.length yc] 45))).cell HR.out
            have hbx := HBD2.out.box
            have d0 : WJ.drew.cell? ⟨LB, 0, none⟩ = some (.int .u8 bd) := by simp [World.cell?, hbx]
            have d1 : WJ.drew.cell? ⟨LB, 1, none⟩ = some (.bool nwv) := by simp [World.cell?, hbx]
            have d2 : WJ.drew.cell? ⟨LB, 2, none⟩ = some (.slice sa sl.length sc) := by simp [World.cell?, hbx, Sl.v]
            have d3 : WJ.drew.cell? ⟨LB, 3, none⟩ = some (.slice ya PL.length yc) := by simp [World.cell?, hbx, Sl.v]
            have hrl : rl.length ≤ 100 := by
              have h1 := congrArg List.length HRS.out
              rw [List.length_map] at h1
              have hs : StOk (ofL ((ls.map Lu.li).take i)) := StOk.zero.fold _
              rw [← HS.out.2] at hs
              have h2 : ml.length = totM T := hs.cnt
              have h3 := hLEN.out.2
              rw [tot_six hT6] at h2
              have h4 : (T.getD q []).length ≤ sumM fun y => (T.getD y []).length := by
                unfold sumM
                obtain rfl | rfl | rfl | rfl | rfl | rfl : q = 0 ∨ q = 1 ∨ q = 2 ∨ q = 3 ∨ q = 4 ∨ q = 5 := by omega
                all_goals (dsimp only; omega)
              omega
            have hnt : BT ≤ WJ.drew.heap.size := Nat.le_of_lt HOD.out.fill.lt
            clear hbx
            go_region_law ((refine step_app_rec kdLp (l := rl) (x := ⟨bd, nwv, ⟨sa, sl, sc⟩, ⟨ya, PL, yc⟩⟩) (by rfl) (by rfl) (by rfl) (by rfl) ((HOD.out.fill.own q _ HR.out).alloc _) (rec_new Lp.enc _ 45 _) (by omega) (Nat.le_trans hnt (by simp)) ?_; intro v5 w5 ho5 hg5 hat5; obtain ⟨⟨a5, l5, c5⟩, rfl, -⟩ := own_lie Lp.enc_len ho5 rfl; obtain ⟨t5, f5⟩ := (HOD.out.fill.below (below1 _ _)).after HR.out hg5; simp only [Sl.v] at t5 ho5 hat5 ⊢; have HA5 := Lib.hid (And.intro ho5 (And.intro hg5 hat5)); clear ho5 hg5 hat5))
            all_goals (
              go_wp2_with fail
              go_meet
              obtain ⟨rs', hO'⟩ := (HOD.out.below (below1 _ _)).appRow hq6 hT6 HR.out (x := ⟨bd, nwv, ⟨sa, sl, sc⟩, ⟨ya, PL, yc⟩⟩) (HX2.out.kept (.of_below (((Below.refl _ _).drew).alloc (Nat.le_refl _) _))) HA5.out.2.1 HA5.out.1 HA5.out.2.2
              refine ⟨rfl, rs', Lib.hid ⟨hO', ?_, ?_⟩⟩
              · have h1 := HA5.out.2.1.block ID (by simp; have := HIDl.out.2; omega) (fun e => HIDn.out _ (List.mem_of_getElem? HR.out) e.symm)
                refine (Below.heap_setCell _ _ _ _ (by have := HIDl.out.1; have := HBL.out; simp only; omega)).trans (h1.trans ?_)
                exact ((below1 WJ _).block ID HIDl.out.2).trans HIDo.out
              · exact ((HBK.out.drew.alloc hnt _).grown HA5.out.2.1 (Nat.le_trans hnt (by simp)) (fun g e => ((HOD.out.fill.own q _ HR.out).lt g e).1)).setCell (Nat.le_refl _) _)
          case rest =>
            obtain ⟨rfl, rs', HQO⟩ := hcut
            have HQE : Hid ((⟨putT T q ⟨bd, nwv, sl, PL⟩, gl ++ [⟨(q : Int) + 1, rl.length⟩], ml ++ [⟨(q : Int) + 1, rl.length⟩]⟩ : St) = ofL ((ls.map Lu.li).take (i + 1))) := Lib.hid (by
              have h1 : (ls.map Lu.li)[i]? = some (Lu.li ⟨xy, xb, xn, ⟨ta, tl, tc⟩, ⟨pa, pl, pc⟩⟩) := by rw [List.getElem?_map, HXI.out]; rfl
              rw [List.take_add_one, h1]
              unfold ofL
              simp only [Option.toList_some, List.foldl_append, List.foldl_cons, List.foldl_nil]
              have h2 := HS.out.2
              unfold ofL at h2
              rw [← h2]
              unfold St.step St.lq St.id Lu.li
              simp only
              rw [HQ.out, HTF.out, HI.out.2.2, HBD.out, HNW.out, HPL.out, ← HRS.out, List.length_map])
            have hID := HQO.out.2.1
            have i0 : wc.cell? ⟨ID, 0, none⟩ = some (.int .u8 ((q : Int) + 1)) := by simp [World.cell?, hID]
            have i1 : wc.cell? ⟨ID, 1, none⟩ = some (.int .i64 rl.length) := by simp [World.cell?, hID]
            have hIDl : ID < wc.heap.size := (Array.getElem?_eq_some_iff.1 hID).1
            have hBTl : BT ≤ wc.heap.size := Nat.le_of_lt HQO.out.1.fill.lt
            have HIm : Hid (ml.length ≤ 100) := Lib.hid (by have := hLEN.out; omega)
            have HGl : Hid (gl.length ≤ 1000) := Lib.hid (by
              have h1 := thM_perm (tl.take 4) fl
              rw [HTF.out, HI.out.2.2] at h1
              have h2 := h1.length_eq
              rw [List.length_append] at h2
              simp only at h2
              have := hLEN.out
              omega)
            have HIDl2 := Lib.hid hIDl
            have HBTl := Lib.hid hBTl
            have HQO1 := HQO.out.1
            clear hID hIDl hBTl
            go_upto_region 23 with fail
            iterate 10 go_step
            have hrc1 := rec_new Nm.enc wc 36 ⟨(q : Int) + 1, rl.length⟩
            refine wpList_app_rec kdNm (l := gl) (x := ⟨(q : Int) + 1, rl.length⟩) rfl rfl rfl rfl (HQO1.free.alloc _) hrc1 (by have := HGl.out; omega) (Nat.le_trans HBTl.out (by simp)) ?_
            intro v5 w5 ho5 hg5 hat5
            obtain ⟨⟨a5, l5, c5⟩, rfl, hl5, -⟩ := own_lie Nm.enc_len ho5 rfl
            have hO5 := (HQO1.below (below1 wc (.cells #[.int .u8 ((q : Int) + 1), .int .i64 rl.length] 36))).appFree hg5 ho5 hat5
            have hB5 : Below BT w w5 := (HQO.out.2.2.alloc HBTl.out _).grown hg5 (Nat.le_trans HBTl.out (by simp)) (fun g e => (HQO1.free.lt g e).1)
            have hI5 : w5.heap[ID]? = some (.cells #[.int .u8 ((q : Int) + 1), .int .i64 rl.length] 36 (0, 0)) := (hg5.block ID (by have := HIDl2.out; simp; omega) (fun e => HIDf.out.1 e.symm)).trans (((below1 wc _).block ID HIDl2.out).trans HQO.out.2.1)
            have hIl5 : ID < w5.heap.size := (Array.getElem?_eq_some_iff.1 hI5).1
            have hl5' : l5 = gl ++ [⟨(q : Int) + 1, rl.length⟩] := hl5
            simp only [Sl.v] at hO5 ⊢
            have HO5 := Lib.hid hO5
            have HB5 := Lib.hid hB5
            have HL5 := Lib.hid hl5'
            have HI5 := Lib.hid hI5
            clear i0 i1 hO5 hB5 hl5' hl5 ho5 hg5 hat5 hI5 hrc1 HQO1
            have i0 : w5.cell? ⟨ID, 0, none⟩ = some (.int .u8 ((q : Int) + 1)) := by simp [World.cell?, HI5.out]
            have i1 : w5.cell? ⟨ID, 1, none⟩ = some (.int .i64 rl.length) := by simp [World.cell?, HI5.out]
            go_upto_region 24 with fail
            iterate 10 go_step
            have hrc2 := rec_new Nm.enc w5 36 ⟨(q : Int) + 1, rl.length⟩
            have hBT5 : BT ≤ w5.heap.size := Nat.le_of_lt HO5.out.fill.lt
            refine wpList_app_rec kdNm (l := ml) (x := ⟨(q : Int) + 1, rl.length⟩) rfl rfl rfl rfl (HO5.out.made.alloc _) hrc2 (by have := HIm.out; omega) (Nat.le_trans hBT5 (by simp)) ?_
            intro v6 w6 ho6 hg6 hat6
            obtain ⟨⟨a6, l6, c6⟩, rfl, hl6, -⟩ := own_lie Nm.enc_len ho6 rfl
            have hO6 := (HO5.out.below (below1 w5 (.cells #[.int .u8 ((q : Int) + 1), .int .i64 rl.length] 36))).appMade hg6 ho6 hat6
            have hB6 : Below BT w w6 := (HB5.out.alloc hBT5 _).grown hg6 (Nat.le_trans hBT5 (by simp)) (fun g e => (HO5.out.made.lt g e).1)
            have hl6' : l6 = ml ++ [⟨(q : Int) + 1, rl.length⟩] := hl6
            simp only [Sl.v] at hO6 ⊢
            have HO6 := Lib.hid hO6
            have HB6 := Lib.hid hB6
            have HL6 := Lib.hid hl6'
            clear hO6 hB6 hl6' hl6 ho6 hg6 hat6 hrc2 i0 i1
            go_wp2_with fail
            go_roundg (G - 1)
            case measure => have := HG.out; have := HGK.out; omega
            case rel =>
              refine ⟨i + 1, F', rs', a5, l5, c5, a6, l6, c6, putT T q ⟨bd, nwv, sl, PL⟩, rfl, rfl, by go_num, by omega, by omega, by have := HG.out; omega, Lib.hid ⟨?_, ?_⟩, HB6⟩
              · have h := HO6.out
                rw [← HL5.out, ← HL6.out] at h
                exact h
              · rw [HL5.out, HL6.out]
                exact HQE.out
    · have HE : Hid (ofL ((ls.map Lu.li).take i) = ofM (ls.map Lu.li)) := Lib.hid (by
        unfold ofM
        rcases Nat.lt_or_ge i n with h1 | h1
        · have : i = 60 := by omega
          rw [this]
        · have h2 : i = n := by omega
          have h3 : (ls.map Lu.li).length = n := by rw [List.length_map, HN.out]
          rw [List.take_of_length_le (by omega), List.take_of_length_le (by omega)])
      have hbt : Hid (Below w.heap.size w wI) := by rw [HBT.out]; exact HB
      by_cases hi1 : i < n
      · have z1 : (i : Int) < (n : Int) := by omega
        have z2 : ¬ (i : Int) < 60 := by omega
        go_wp2_with fail
        (try simp only [Exit.inBlock, Exit.then]); refine bodyPost_ret (results_tmp2 rfl _ _ _) rfl ?_
        refine ⟨F, rs, .slice fa fl.length fc, ⟨ma, ml, mc⟩, by rw [HBT.out]; rfl, Lib.hid ⟨?_, ?_⟩, hbt.out⟩
        · rw [← HE.out, ← HS.out.2, HBT.out]; exact HS.out.1
        · rw [← HE.out, ← HS.out.2]
      · have z1 : ¬ (i : Int) < (n : Int) := by omega
        go_wp2_with fail
        (try simp only [Exit.inBlock, Exit.then]); refine bodyPost_ret (results_tmp2 rfl _ _ _) rfl ?_
        refine ⟨F, rs, .slice fa fl.length fc, ⟨ma, ml, mc⟩, by rw [HBT.out]; rfl, Lib.hid ⟨?_, ?_⟩, hbt.out⟩
        · rw [← HE.out, ← HS.out.2, HBT.out]; exact HS.out.1
        · rw [← HE.out, ← HS.out.2]
end Go.Proofs.Ytgaofkbmnapogaa
