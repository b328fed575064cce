/- Made of layer 4: from its names on. -/
import Derived.Test.YtpejilhdhkmcjaaGreatDoorJbAl
import Derived.Test.YtpejilhdhkmcjaaGreatDoorJbau
import Derived.Deep.DeepCutAuto
namespace Go.Proofs.YtpejilhdhkmcjaaGreatDoor
open Go.RowKit
def begins33 : Code → Bool
 | .region 33 _ _ => true
 | .seq a _ => begins33 a
 | .block _ c => begins33 c
 | .scope c => begins33 c
 | _ => false
/-- The code of Made from region 33 on. -/
def from33 : Code → Option Code
 | .seq a b => if begins33 a then some (.seq a b) else match from33 a with
  | some c => some c
  | none => from33 b
 | .block _ c => from33 c
 | .scope c => from33 c
 | _ => none
set_option maxRecDepth 1000000 in
/-- How Made ends. -/
def End33 (w : World) (hL hR hA hC : Nat) (A0 : Option Addr) (c0 : Nat) (zs : List Int) (L : Nat) (P : World → Prop) (B : Nat) (x0 x1 x2 x3 x4 x5 x6 : Value) (a : Act) (wr : World) : Prop :=
 ∃ v0 v1 v3 v6 v7 v8 v9 v10 v11 v12 v13 v14 v15 v16 v17 v18 v19 v20 v21 v22 v23 v24 v25 v26 v27 v28 v29 v30 v31 v32 v33 v34 v35 v36 v37 v38 v39 v40 v41 v42 v43 v44 v45 v46 v47 v48 v49 v50 v51 v52 v53 v54 v55 v56 v57 v58 v59 v60 v61 v62 v63 v64 v65 v66 v67 v68 v69 v70 v71 v72 v73 v74 v75 v76 v77 v78 v79 v80 v81 v82 v83 v84 v85 v86 v87 v88 v89 v90 v91 v92 v93 v94 v95 v96 v97 v98 v99 v100 v101 v102 v103 v104 v105 v106 v107 v108 v109 v110 v111 v112 v113 v114 v115 v116 v117 v118 v119 v120 v121 v122 v123 v124 v125 v126 v127 v128 v129 v130 v131 v132 v133 v134 v135 v136 v137 v138 v139 v140 v141 v142 v143 v144 v145 v146 v147 v148 v149 v150 v151 v152 v153 v154 v155 : Value, (∃ (W : World) (b : Nat) (ns : List Nm) (x7 : Value), NamesOk L ns ∧ W.ownsRow B 69 3 x7 ns.length (flatN ns) ∧ P W ∧ B ≤ W.heap.size ∧ MB w W hL hR hA hC A0 c0 zs b x0 x1 x2 x3 x4 x5 x6 x7 ∧ wr = (((((((W.setCell ⟨hR, 0, none⟩ x0).setCell ⟨hR, 1, none⟩ x1).setCell ⟨hR, 2, none⟩ x2).setCell ⟨hR, 3, none⟩ x3).setCell ⟨hR, 4, none⟩ x4).setCell ⟨hR, 5, none⟩ x5).setCell ⟨hR, 6, none⟩ x6).setCell ⟨hR, 7, none⟩ x7) ∧ a = ⟨#[v0, v1, .pointer (some ⟨hR, 0, none⟩), v3, .func (Fn.func 34) #[] #[.pointer (some ⟨hA, 0, none⟩), .pointer (some ⟨hL, 0, none⟩)], .pointer (some ⟨hC, 0, none⟩), v6, v7, v8, v9, v10, v11, v12, v13, v14, v15, v16, v17, v18, v19, v20, v21, v22, v23, v24, v25, v26, v27, v28, v29, v30, v31, v32, v33, v34, v35, v36, v37, v38, v39, v40, v41, v42, v43, v44, v45, v46, v47, v48, v49, v50, v51, v52, v53, v54, v55, v56, v57, v58, v59, v60, v61, v62, v63, v64, v65, v66, v67, v68, v69, v70, v71, v72, v73, v74, v75, v76, v77, v78, v79, v80, v81, v82, v83, v84, v85, v86, v87, v88, v89, v90, v91, v92, v93, v94, v95, v96, v97, v98, v99, v100, v101, v102, v103, v104, v105, v106, v107, v108, v109, v110, v111, v112, v113, v114, v115, v116, v117, v118, v119, v120, v121, v122, v123, v124, v125, v126, v127, v128, v129, v130, v131, v132, v133, v134, v135, v136, v137, v138, v139, v140, v141, v142, v143, v144, v145, v146, v147, v148, v149, v150, v151, v152, v153, v154, v155], []⟩

set_option maxRecDepth 1000000 in
set_option maxHeartbeats 8000000 in
theorem rest33_any (w w15 : World) (hL hR hA hC : Nat) (A0 : Option Addr) (c0 : Nat) (zs : List Int) (a : Nat) (n : Int) (AL A AO AB AC AF : Option Addr) (ll cL gl cg ol cO bl cB cl cC fl cF : Nat) (P : World → Prop) (B : Nat) (Q0 : Exit → Act → World → Prop) (u0 u1 u3 u6 u7 u8 u9 u10 u11 u12 u13 u14 u15 u16 u17 u18 u19 u20 u21 u22 u23 u24 u25 u26 u27 u28 u29 u30 u31 u32 u33 u34 u35 u36 u37 u38 u39 u40 u41 u42 u43 u44 u45 u46 u47 u48 u49 u50 u51 u52 u53 u54 u55 u56 u57 u58 u59 u60 u61 u62 u63 u64 u65 u66 u67 u68 u69 u70 u71 u72 u73 u74 u75 u76 u77 u78 u79 u80 u81 u82 u83 u84 u85 u86 u87 u88 u89 u90 u91 u92 u93 u94 u95 u96 u97 u98 u99 u100 u101 u102 u103 u104 u105 u106 u107 u108 u109 u110 u111 u112 u113 u114 u115 u116 u117 u118 u119 u120 u121 u122 u123 u124 u125 u126 u127 u128 u129 u130 u131 u132 u133 u134 u135 u136 u137 u138 u139 u140 u141 u142 u143 u144 u145 u146 u147 u148 u149 u150 u151 u152 u153 u154 u155 : Value)
  (HU : Hid (Us w w.heap.size A0 zs)) (HM : Hid (zs.length ≤ maxLen)) (ha : a ≤ 58) (hol : ol ≤ 3) (hP : P w15) (HC5 : Hid (∀ V V', Out B w.heap.size V V' → P V → P V')) (hB : B ≤ w15.heap.size) (hbs : w.heap.size + 4 ≤ B) (h6 : MB w w15 hL hR hA hC A0 c0 zs a (.int .i64 n) (.slice AL ll cL) (.slice A gl cg) (.slice AO ol cO) (.slice AB bl cB) (.slice AC cl cC) (.slice AF fl cF) (.slice none 0 0))
  (HPAN : Hid (∀ ch (a : Act) d (v : Value) w, Q0 (.panic ch) (a.put d v) w → Q0 (.panic ch) a w)) (hend : ∀ a' w', End33 w hL hR hA hC A0 c0 zs ol P B (.int .i64 n) (.slice AL ll cL) (.slice A gl cg) (.slice AO ol cO) (.slice AB bl cB) (.slice AC cl cC) (.slice AF fl cF) a' w' → Q0 .ret a' w') :
  Code.wp Tryz.prog ((Tryz.f15.body.bind from33).getD .skip) Q0 ⟨#[u0, u1, .pointer (some ⟨hR, 0, none⟩), u3, .func (Fn.func 34) #[] #[.pointer (some ⟨hA, 0, none⟩), .pointer (some ⟨hL, 0, none⟩)], .pointer (some ⟨hC, 0, none⟩), u6, u7, u8, u9, u10, u11, u12, u13, u14, u15, u16, u17, u18, u19, u20, u21, u22, u23, u24, u25, u26, u27, u28, u29, u30, u31, u32, u33, u34, u35, u36, u37, u38, u39, u40, u41, u42, u43, u44, u45, u46, u47, u48, u49, u50, u51, u52, u53, u54, u55, u56, u57, u58, u59, u60, u61, u62, u63, u64, u65, u66, u67, u68, u69, u70, u71, u72, u73, u74, u75, u76, u77, u78, u79, u80, u81, u82, u83, u84, u85, u86, u87, u88, u89, u90, u91, u92, u93, u94, u95, u96, u97, u98, u99, u100, u101, u102, u103, u104, u105, u106, u107, u108, u109, u110, u111, u112, u113, u114, u115, u116, u117, u118, u119, u120, u121, u122, u123, u124, u125, u126, u127, u128, u129, u130, u131, u132, u133, u134, u135, u136, u137, u138, u139, u140, u141, u142, u143, u144, u145, u146, u147, u148, u149, u150, u151, u152, u153, u154, u155], []⟩ w15 := by
 conv => arg 2; whnf
 have HEND := Lib.hid hend
 clear hend
 go_wp2_with fail
 refine (h6.call HU.out HM.out (by omega) 3 (by omega) (by omega)).mono ?_
 rintro e w16 ⟨rfl, h7, hse⟩
 obtain ⟨hPn, hBn⟩ := pick_keep hP HC5.out hB (by have := h6.eA; omega) (by have := h6.eA; omega) hse
 clear hse hP hB h6
 obtain ⟨hkq0, hkq1⟩ := Cm.pick_lt zs a 3 (by omega)
 generalize Cm.pickS zs a 3 = kq at *
 have hrow := World.ownsRow_nil w16 B 69 3
 go_upto_if 124 with fail
 go_cut [] from 16 (fun wx => NamesRel w hL hR hA hC A0 c0 zs P B (.int .i64 n) (.slice AL ll cL) (.slice A gl cg) (.slice AO ol cO) (.slice AB bl cB) (.slice AC cl cC) (.slice AF fl cF) wx)
 case first =>
  by_cases hk : 0 < kq
  ·
   have hkd : decide (0 < kq) = true := decide_eq_true hk
   have h8 := h7.alloc (Obj.cells #[.int .u8 108, .int .i64 0, .string ⟨#[113]⟩] 69)
   have hbk := Blk.new w16 69 #[.int .u8 108, .int .i64 0, .string ⟨#[113]⟩]
   have hrow8 := World.ownsRow.alloc hrow (Obj.cells #[.int .u8 108, .int .i64 0, .string ⟨#[113]⟩] 69)
   obtain ⟨hP8, hB8⟩ := alloc_keep hPn HC5.out hBn (Obj.cells #[.int .u8 108, .int .i64 0, .string ⟨#[113]⟩] 69)
   have HRUN : Hid (∀ ty, ∃ v' w', (Builtin.append_ #[27, 27] ty #[.slice none 0 0, .slice (some ⟨w16.heap.size, 0, none⟩) 1 1]).run Tryz.prog (w16.alloc (Obj.cells #[.int .u8 108, .int .i64 0, .string ⟨#[113]⟩] 69)) = .ok v' w' ∧ (w'.ownsRow B 69 3 v' (0 + 1) ([] ++ [.int .u8 108, .int .i64 0, .string ⟨#[113]⟩]) ∧ (w16.alloc (Obj.cells #[.int .u8 108, .int .i64 0, .string ⟨#[113]⟩] 69)).grownBy w' (Value.slice none 0 0).ownBlock)) := by
    intro ty
    obtain ⟨v', w', r1, r2, r3, _⟩ := app_name (w16.alloc (Obj.cells #[.int .u8 108, .int .i64 0, .string ⟨#[113]⟩] 69)) B ty (.slice none 0 0) 0 [] hrow8 w16.heap.size 1 108 0 ⟨#[113]⟩ hbk (by omega) hB8
    exact ⟨v', w', r1, r2, r3⟩
   have HRB := Lib.hid (row_base hrow8)
   have HR8 := Lib.hid hrow8
   have HBS := Lib.hid hbs
   have c7 := h7.cb.cell 7
   simp only [zD, zE, zF] at c7
   clear hrow8 hbk hrow
   go_wp2_with (at_builtin; go_loud (refine wpList_app rfl (.tmp 126) (.tmp 128) 27 rfl _ _ rfl rfl _ HRUN.out ?_); intro v' w17 hR17; obtain ⟨An, cn, rfl⟩ := row_slice hR17.1; have h10 := h8.grown hR17.2 (fun k e => Nat.le_trans HBS.out (HRB.out k e)); have c7 := h10.cb.cell 7; have f7 := h10.cb.frozen 7; simp only [zD, zE, zF] at c7)
   go_meet
   have hf := name_next (P := P) (ns := []) h10 hR17.1 hP8 HC5.out hR17.2 HR8.out hbs hB8
   exact ⟨a + 1, [qName], _, by omega, Or.inr rfl, hf.1, hf.2.1, hf.2.2.1, hf.2.2.2⟩
  have hkd : decide (0 < kq) = false := decide_eq_false hk
  go_wp2_with fail
  go_meet
  exact ⟨a + 1, [], (.slice none 0 0), by omega, Or.inl rfl, hrow, hPn, hBn, h7⟩
 clear hrow hPn hBn h7
 obtain ⟨a, ns, v, ha, hns, hrow, hP, hB, h6⟩ := hcut
 have HNS := Lib.hid hns
 clear hns
 by_cases h0 : 0 < ol
 ·
  have hd0 : decide ((0 : Int) < (ol : Int)) = true := decide_eq_true (by omega)
  have c3 := h6.cb.cell 3
  simp only [zD, zE, zF] at c3
  go_wp2_with fail
  refine (h6.call HU.out HM.out (by omega) 2 (by omega) (by omega)).mono ?_
  rintro e w18 ⟨rfl, h7, hse⟩
  have hrow7 : w18.ownsRow B 69 3 v ns.length (flatN ns) := hse ▸ row_set hrow (by have := h6.eA; simp; omega) _
  obtain ⟨hPn, hBn⟩ := pick_keep hP HC5.out hB (by have := h6.eA; omega) (by have := h6.eA; omega) hse
  clear hse hP hB h6 hrow c3
  obtain ⟨hkp0, hkp1⟩ := Cm.pick_lt zs a 2 (by omega)
  generalize Cm.pickS zs a 2 = kp at *
  go_upto_if 139 with fail
  clear hd0
  go_cut [] from 16 (fun wx => EndRel w hL hR hA hC A0 c0 zs ol P B (.int .i64 n) (.slice AL ll cL) (.slice A gl cg) (.slice AO ol cO) (.slice AB bl cB) (.slice AC cl cC) (.slice AF fl cF) wx)
  case first =>
   by_cases hk : 0 < kp
   ·
    have hkd : decide (0 < kp) = true := decide_eq_true hk
    go_upto_region 36 with fail
    clear hkd hk hkp0 hkp1
    have HX : Hid (IntKind.i64.wrap ((ol : Int) - 1) = (ol : Int) - 1) := (by unfold Hid; rw [IntKind.wrap_i64]; omega)
    replace h7 := h7.drew
    have hPd := drew_keep hPn HC5.out hBn
    have hrowd : w18.drew.ownsRow B 69 3 v ns.length (flatN ns) := hrow7
    have hBd : B ≤ w18.drew.heap.size := hBn
    clear hPn hBn hrow7
    have c7 := h7.cb.cell 7
    have g3 := h7.cb.cell 3
    simp only [zD, zE, zF] at c7 g3
    refine wp_region_held_drew (S := fun W => W.cell? ⟨hC, 3, none⟩ = some (.slice AO ol cO)) (by kernel_rfl) g3 (fun hHeld => ?_)
    generalize w18.drew = W0 at *
    refine wpAnyH_take (i := 0) (oi := ⟨some 140, _, _, _, _, _⟩) (v := ?_) rfl (by kernel_rfl) (by kernel_rfl) (by kernel_rfl) (fun _ _ _ h => HPAN.out _ _ _ _ _ h) (Or.inl ⟨by rfl, ?_⟩) hHeld ?_
    rotate_left
    ·
     intro w hSw
     (try dsimp only at hSw)
     first | (go_simp; done) | (go_simp; with_reducible rfl) | with_reducible rfl
    try simp only [Act.put, zA, zB, zC]
    refine wpAnyH_take (i := 2) (oi := ⟨some 142, _, _, _, _, _⟩) (v := ?_) rfl (by kernel_rfl) (by kernel_rfl) (by kernel_rfl) (fun _ _ _ h => HPAN.out _ _ _ _ _ h) (Or.inl ⟨by rfl, ?_⟩) hHeld ?_
    rotate_left
    ·
     intro w hSw
     (try dsimp only at hSw)
     first | (go_simp; done) | (go_simp; with_reducible rfl) | with_reducible rfl
    try simp only [Act.put, zA, zB, zC]
    refine wpAnyH_take (i := 3) (oi := ⟨some 143, _, _, _, _, _⟩) (v := ?_) rfl (by kernel_rfl) (by kernel_rfl) (by kernel_rfl) (fun _ _ _ h => HPAN.out _ _ _ _ _ h) (Or.inl ⟨by rfl, ?_⟩) hHeld ?_
    rotate_left
    ·
     intro w hSw
     (try dsimp only at hSw)
     first | (go_simp; done) | (go_simp; with_reducible rfl) | with_reducible rfl
    try simp only [Act.put, zA, zB, zC]
    refine wpAnyH_take (i := 4) (oi := ⟨some 144, _, _, _, _, _⟩) (v := ?_) rfl (by kernel_rfl) (by kernel_rfl) (by kernel_rfl) (fun _ _ _ h => HPAN.out _ _ _ _ _ h) (Or.inl ⟨by rfl, ?_⟩) hHeld ?_
    rotate_left
    ·
     intro w hSw
     (try dsimp only at hSw)
     first | (go_simp; done) | (go_simp; with_reducible rfl) | with_reducible rfl
    try simp only [Act.put, zA, zB, zC]
    refine wpAnyH_take (i := 5) (oi := ⟨some 145, _, _, _, _, _⟩) (v := ?_) rfl (by kernel_rfl) (by kernel_rfl) (by kernel_rfl) (fun _ _ _ h => HPAN.out _ _ _ _ _ h) (Or.inl ⟨by rfl, ?_⟩) hHeld ?_
    rotate_left
    ·
     intro w hSw
     (try dsimp only at hSw)
     first | (go_simp; done) | (go_simp; with_reducible rfl) | with_reducible rfl
    try simp only [Act.put, zA, zB, zC]
    refine wpAnyH_take (i := 7) (oi := ⟨some 147, _, _, _, _, _⟩) (v := ?_) rfl (by kernel_rfl) (by kernel_rfl) (by kernel_rfl) (fun _ _ _ h => HPAN.out _ _ _ _ _ h) (Or.inl ⟨by rfl, ?_⟩) hHeld ?_
    rotate_left
    ·
     intro w hSw
     (try dsimp only at hSw)
     first | (go_simp; done) | (go_simp; with_reducible rfl) | with_reducible rfl
    try simp only [Act.put, zA, zB, zC]
    have h00 := h7
    clear h7
    have hrow0 := hrowd
    have hP0 := hPd
    have hB0 := hBd
    clear hrowd hPd hBd
    refine wpAnyH_ready (rs := [1, 6, 8]) (by kernel_rfl) (by simp) ?_
    refine AllReadyH.cons (o := ⟨some 141, _, _, _, _, _⟩) rfl (fun K hK => ?_) (AllReadyH.cons (o := ⟨some 146, _, _, _, _, _⟩) rfl (fun K hK => ?_) (AllReadyH.cons (o := ⟨some 148, _, _, _, _, _⟩) rfl (fun K hK => ?_) AllReadyH.nil))
    ·
     go_simp
     refine hK.out _ _ ?_ (fun hHeld => ?_)
     ·
      exact g3
     clear hK K
     try simp only [Act.put, zA, zB, zC]
     refine wpAnyH_ready (rs := [6, 8]) (by kernel_rfl) (by simp) ?_
     refine AllReadyH.cons (o := ⟨some 146, _, _, _, _, _⟩) rfl (fun K hK => ?_) (AllReadyH.cons (o := ⟨some 148, _, _, _, _, _⟩) rfl (fun K hK => ?_) AllReadyH.nil)
     ·
      go_simp
      (have h1 := h00.alloc (Obj.cells #[.string ⟨#[111, 117, 116]⟩, .string ⟨#[108, 49]⟩, .string ⟨#[97, 45, 98]⟩] 9); have hk3 := Blk.new W0 9 #[.string ⟨#[111, 117, 116]⟩, .string ⟨#[108, 49]⟩, .string ⟨#[97, 45, 98]⟩]; have hrow1 := World.ownsRow.alloc hrow0 (Obj.cells #[.string ⟨#[111, 117, 116]⟩, .string ⟨#[108, 49]⟩, .string ⟨#[97, 45, 98]⟩] 9); obtain ⟨hP1, hB1⟩ := alloc_keep hP0 HC5.out hB0 (Obj.cells #[.string ⟨#[111, 117, 116]⟩, .string ⟨#[108, 49]⟩, .string ⟨#[97, 45, 98]⟩] 9); have hs3 : hA < W0.heap.size := (by have := h00.size; have := h00.eA; omega); generalize W0.alloc (Obj.cells #[.string ⟨#[111, 117, 116]⟩, .string ⟨#[108, 49]⟩, .string ⟨#[97, 45, 98]⟩] 9) = W1 at *; have c7 := h1.cb.cell 7; have g3 := h1.cb.cell 3; simp only [zD, zE, zF] at c7 g3)
      refine hK.out _ _ ?_ (fun hHeld => ?_)
      ·
       exact g3
      clear hK K
      try simp only [Act.put, zA, zB, zC]
      refine wpAnyH_ready (rs := [8]) (by kernel_rfl) (by simp) ?_
      refine AllReadyH.cons (o := ⟨some 148, _, _, _, _, _⟩) rfl (fun K hK => ?_) AllReadyH.nil
      go_simp
      (refine (h1.call HU.out HM.out (by omega) 3 (by omega) (by omega)).mono ?_; rintro e W2 ⟨rfl, h2, hse⟩; have hrow2 : W2.ownsRow B 69 3 v ns.length (flatN ns) := hse ▸ row_set hrow1 (by have := h1.eA; simp; omega) _; obtain ⟨hP2, hB2⟩ := pick_keep hP1 HC5.out hB1 (by have := h1.eA; omega) (by have := h1.eA; omega) hse; replace hk3 : Blk W2 W0.heap.size 9 #[.string ⟨#[111, 117, 116]⟩, .string ⟨#[108, 49]⟩, .string ⟨#[97, 45, 98]⟩] := hse ▸ hk3.far (by simp; omega) _; clear hse; obtain ⟨ht0, ht1⟩ := Cm.pick_lt zs (a + 1) 3 (by omega); generalize Cm.pickS zs (a + 1) 3 = p3 at *; obtain ⟨kt, rfl⟩ := Int.eq_ofNat_of_zero_le ht0; have hkt : kt < 3 := (by omega); have hix := ixS3 W0.heap.size kt hkt; have k3 := txt_cell hk3 kt hkt; have c7 := h2.cb.cell 7; have g3 := h2.cb.cell 3; simp only [zD, zE, zF] at c7 g3)
      refine hK.out _ _ ?_ (fun hHeld => ?_)
      ·
       exact g3
      clear hK K
      try simp only [Act.put, zA, zB, zC]
      refine wpAnyH_take (i := 9) (oi := ⟨some 149, _, _, _, _, _⟩) (v := ?_) rfl (by kernel_rfl) (by kernel_rfl) (by kernel_rfl) (fun _ _ _ h => HPAN.out _ _ _ _ _ h) (Or.inl ⟨by rfl, ?_⟩) hHeld ?_
      rotate_left
      ·
       intro w hSw
       (try dsimp only at hSw)
       first | (go_simp; done) | (go_simp; with_reducible rfl) | with_reducible rfl
      try simp only [Act.put, zA, zB, zC]
      refine wpAnyH_ready (rs := [10]) (by kernel_rfl) (by simp) ?_
      refine AllReadyH.cons (o := ⟨some 150, _, _, _, _, _⟩) rfl (fun K hK => ?_) AllReadyH.nil
      go_simp
      refine hK.out _ _ ?_ (fun hHeld => ?_)
      ·
       exact g3
      clear hK K
      try simp only [Act.put, zA, zB, zC]
      refine wpAnyH_take (i := 11) (oi := ⟨some 151, _, _, _, _, _⟩) (v := ?_) rfl (by kernel_rfl) (by kernel_rfl) (by kernel_rfl) (fun _ _ _ h => HPAN.out _ _ _ _ _ h) (Or.inl ⟨by rfl, ?_⟩) hHeld ?_
      rotate_left
      ·
       intro w hSw
       (try dsimp only at hSw)
       first | (go_simp; done) | (go_simp; with_reducible rfl) | with_reducible rfl
      try simp only [Act.put, zA, zB, zC]
      refine wpAnyH_ready (rs := [12]) (by kernel_rfl) (by simp) ?_
      refine AllReadyH.cons (o := ⟨some 152, _, _, _, _, _⟩) rfl (fun K hK => ?_) AllReadyH.nil
      go_simp
      (have h3 := h2.alloc (Obj.cells #[.int .u8 111, .int .i64 (IntKind.i64.wrap ((ol : Int) - 1)), .string (txt3 kt)] 69); have hbk := Blk.new W2 69 #[.int .u8 111, .int .i64 (IntKind.i64.wrap ((ol : Int) - 1)), .string (txt3 kt)]; have hrow3 := World.ownsRow.alloc hrow2 (Obj.cells #[.int .u8 111, .int .i64 (IntKind.i64.wrap ((ol : Int) - 1)), .string (txt3 kt)] 69); obtain ⟨hP3, hB3⟩ := alloc_keep hP2 HC5.out hB2 (Obj.cells #[.int .u8 111, .int .i64 (IntKind.i64.wrap ((ol : Int) - 1)), .string (txt3 kt)] 69); generalize W2.alloc (Obj.cells #[.int .u8 111, .int .i64 (IntKind.i64.wrap ((ol : Int) - 1)), .string (txt3 kt)] 69) = W3 at *; have c7 := h3.cb.cell 7; have g3 := h3.cb.cell 3; simp only [zD, zE, zF] at c7 g3)
      refine hK.out _ _ ?_ (fun hHeld => ?_)
      ·
       exact g3
      clear hK K
      try simp only [Act.put, zA, zB, zC]
      refine wpAnyH_ready (rs := [13]) (by kernel_rfl) (by simp) ?_
      refine AllReadyH.cons (o := ⟨some 153, _, _, _, _, _⟩) rfl (fun K hK => ?_) AllReadyH.nil
      (rw [if_pos (by rfl)]; refine oper_app (.tmp 141) (.tmp 152) 27 rfl v (.slice (some ⟨W2.heap.size, 0, none⟩) 1 1) rfl rfl (fun v' w' => w'.ownsRow B 69 3 v' (ns.length + 1) (flatN ns ++ [.int .u8 111, .int .i64 (IntKind.i64.wrap ((ol : Int) - 1)), .string (txt3 kt)]) ∧ W3.grownBy w' v.ownBlock) (fun ty => (by obtain ⟨v', w', r1, r2, r3, _⟩ := app_name W3 B ty v ns.length _ hrow3 W2.heap.size 1 111 _ _ hbk (by rcases HNS.out with h | h <;> simp [h]) hB3; exact ⟨v', w', r1, r2, r3⟩)) ?_; intro v' W4 hR; obtain ⟨AL', cL', rfl⟩ := row_slice hR.1; have h4 := h3.grown hR.2 (fun k e => Nat.le_trans hbs (row_base hrow3 k e)); have f7 := h4.cb.frozen 7; have c7 := h4.cb.cell 7; have g3 := h4.cb.cell 3; simp only [zD, zE, zF] at c7 g3)
      refine hK.out _ _ ?_ (fun hHeld => ?_)
      ·
       exact g3
      clear hK K
      try simp only [Act.put, zA, zB, zC]
      refine wpAnyH_take (i := 14) (oi := ⟨some 154, _, _, _, _, _⟩) (v := ?_) rfl (by kernel_rfl) (by kernel_rfl) (by kernel_rfl) (fun _ _ _ h => HPAN.out _ _ _ _ _ h) (Or.inl ⟨by rfl, ?_⟩) hHeld ?_
      rotate_left
      ·
       intro w hSw
       (try dsimp only at hSw)
       first | (go_simp; done) | (go_simp; with_reducible rfl) | with_reducible rfl
      try simp only [Act.put, zA, zB, zC]
      refine wpAnyH_ready (rs := [15]) (by kernel_rfl) (by simp) ?_
      refine AllReadyH.cons (o := ⟨none, _, _, _, _, _⟩) rfl (fun K hK => ?_) AllReadyH.nil
      go_simp
      refine hK.out _ _ ?_ (fun hHeld => ?_)
      ·
       exact (World.cell?_setCell_other _ _ _ _ (by simp)).trans g3
      clear hK K
      try simp only [Act.put, zA, zB, zC]
      refine wpAnyH_done (by kernel_rfl) ?_ _
      go_wp2_with fail
      go_meet
      have hf := name_next (P := P) h4 hR.1 hP3 HC5.out hR.2 hrow3 hbs hB3
      rw [HX.out] at hf
      exact ⟨a + 1 + 1, _, _, by omega, ⟨ns, HNS.out, Or.inr ⟨h0, kt, hkt, rfl⟩⟩, hf.1, hf.2.1, hf.2.2.1, hf.2.2.2⟩
     go_simp
     (refine (h00.call HU.out HM.out (by omega) 3 (by omega) (by omega)).mono ?_; rintro e W1 ⟨rfl, h1, hse⟩; have hrow1 : W1.ownsRow B 69 3 v ns.length (flatN ns) := hse ▸ row_set hrow0 (by have := h00.eA; simp; omega) _; obtain ⟨hP1, hB1⟩ := pick_keep hP0 HC5.out hB0 (by have := h00.eA; omega) (by have := h00.eA; omega) hse; clear hse; obtain ⟨ht0, ht1⟩ := Cm.pick_lt zs (a + 1) 3 (by omega); generalize Cm.pickS zs (a + 1) 3 = p3 at *; obtain ⟨kt, rfl⟩ := Int.eq_ofNat_of_zero_le ht0; have hkt : kt < 3 := (by omega); have c7 := h1.cb.cell 7; have g3 := h1.cb.cell 3; simp only [zD, zE, zF] at c7 g3)
     refine hK.out _ _ ?_ (fun hHeld => ?_)
     ·
      exact g3
     clear hK K
     try simp only [Act.put, zA, zB, zC]
     refine wpAnyH_ready (rs := [6]) (by kernel_rfl) (by simp) ?_
     refine AllReadyH.cons (o := ⟨some 146, _, _, _, _, _⟩) rfl (fun K hK => ?_) AllReadyH.nil
     go_simp
     (have h2 := h1.alloc (Obj.cells #[.string ⟨#[111, 117, 116]⟩, .string ⟨#[108, 49]⟩, .string ⟨#[97, 45, 98]⟩] 9); have hk3 := Blk.new W1 9 #[.string ⟨#[111, 117, 116]⟩, .string ⟨#[108, 49]⟩, .string ⟨#[97, 45, 98]⟩]; have hrow2 := World.ownsRow.alloc hrow1 (Obj.cells #[.string ⟨#[111, 117, 116]⟩, .string ⟨#[108, 49]⟩, .string ⟨#[97, 45, 98]⟩] 9); obtain ⟨hP2, hB2⟩ := alloc_keep hP1 HC5.out hB1 (Obj.cells #[.string ⟨#[111, 117, 116]⟩, .string ⟨#[108, 49]⟩, .string ⟨#[97, 45, 98]⟩] 9); have hs3 : hA < W1.heap.size := (by have := h1.size; have := h1.eA; omega); generalize W1.alloc (Obj.cells #[.string ⟨#[111, 117, 116]⟩, .string ⟨#[108, 49]⟩, .string ⟨#[97, 45, 98]⟩] 9) = W2 at *; have hix := ixS3 W1.heap.size kt hkt; have k3 := txt_cell hk3 kt hkt; have c7 := h2.cb.cell 7; have g3 := h2.cb.cell 3; simp only [zD, zE, zF] at c7 g3)
     refine hK.out _ _ ?_ (fun hHeld => ?_)
     ·
      exact g3
     clear hK K
     try simp only [Act.put, zA, zB, zC]
     refine wpAnyH_take (i := 9) (oi := ⟨some 149, _, _, _, _, _⟩) (v := ?_) rfl (by kernel_rfl) (by kernel_rfl) (by kernel_rfl) (fun _ _ _ h => HPAN.out _ _ _ _ _ h) (Or.inl ⟨by rfl, ?_⟩) hHeld ?_
     rotate_left
     ·
      intro w hSw
      (try dsimp only at hSw)
      first | (go_simp; done) | (go_simp; with_reducible rfl) | with_reducible rfl
     try simp only [Act.put, zA, zB, zC]
     refine wpAnyH_ready (rs := [10]) (by kernel_rfl) (by simp) ?_
     refine AllReadyH.cons (o := ⟨some 150, _, _, _, _, _⟩) rfl (fun K hK => ?_) AllReadyH.nil
     go_simp
     refine hK.out _ _ ?_ (fun hHeld => ?_)
     ·
      exact g3
     clear hK K
     try simp only [Act.put, zA, zB, zC]
     refine wpAnyH_take (i := 11) (oi := ⟨some 151, _, _, _, _, _⟩) (v := ?_) rfl (by kernel_rfl) (by kernel_rfl) (by kernel_rfl) (fun _ _ _ h => HPAN.out _ _ _ _ _ h) (Or.inl ⟨by rfl, ?_⟩) hHeld ?_
     rotate_left
     ·
      intro w hSw
      (try dsimp only at hSw)
      first | (go_simp; done) | (go_simp; with_reducible rfl) | with_reducible rfl
     try simp only [Act.put, zA, zB, zC]
     refine wpAnyH_ready (rs := [12]) (by kernel_rfl) (by simp) ?_
     refine AllReadyH.cons (o := ⟨some 152, _, _, _, _, _⟩) rfl (fun K hK => ?_) AllReadyH.nil
     go_simp
     (have h3 := h2.alloc (Obj.cells #[.int .u8 111, .int .i64 (IntKind.i64.wrap ((ol : Int) - 1)), .string (txt3 kt)] 69); have hbk := Blk.new W2 69 #[.int .u8 111, .int .i64 (IntKind.i64.wrap ((ol : Int) - 1)), .string (txt3 kt)]; have hrow3 := World.ownsRow.alloc hrow2 (Obj.cells #[.int .u8 111, .int .i64 (IntKind.i64.wrap ((ol : Int) - 1)), .string (txt3 kt)] 69); obtain ⟨hP3, hB3⟩ := alloc_keep hP2 HC5.out hB2 (Obj.cells #[.int .u8 111, .int .i64 (IntKind.i64.wrap ((ol : Int) - 1)), .string (txt3 kt)] 69); generalize W2.alloc (Obj.cells #[.int .u8 111, .int .i64 (IntKind.i64.wrap ((ol : Int) - 1)), .string (txt3 kt)] 69) = W3 at *; have c7 := h3.cb.cell 7; have g3 := h3.cb.cell 3; simp only [zD, zE, zF] at c7 g3)
     refine hK.out _ _ ?_ (fun hHeld => ?_)
     ·
      exact g3
     clear hK K
     try simp only [Act.put, zA, zB, zC]
     refine wpAnyH_ready (rs := [13]) (by kernel_rfl) (by simp) ?_
     refine AllReadyH.cons (o := ⟨some 153, _, _, _, _, _⟩) rfl (fun K hK => ?_) AllReadyH.nil
     (rw [if_pos (by rfl)]; refine oper_app (.tmp 141) (.tmp 152) 27 rfl v (.slice (some ⟨W2.heap.size, 0, none⟩) 1 1) rfl rfl (fun v' w' => w'.ownsRow B 69 3 v' (ns.length + 1) (flatN ns ++ [.int .u8 111, .int .i64 (IntKind.i64.wrap ((ol : Int) - 1)), .string (txt3 kt)]) ∧ W3.grownBy w' v.ownBlock) (fun ty => (by obtain ⟨v', w', r1, r2, r3, _⟩ := app_name W3 B ty v ns.length _ hrow3 W2.heap.size 1 111 _ _ hbk (by rcases HNS.out with h | h <;> simp [h]) hB3; exact ⟨v', w', r1, r2, r3⟩)) ?_; intro v' W4 hR; obtain ⟨AL', cL', rfl⟩ := row_slice hR.1; have h4 := h3.grown hR.2 (fun k e => Nat.le_trans hbs (row_base hrow3 k e)); have f7 := h4.cb.frozen 7; have c7 := h4.cb.cell 7; have g3 := h4.cb.cell 3; simp only [zD, zE, zF] at c7 g3)
     refine hK.out _ _ ?_ (fun hHeld => ?_)
     ·
      exact g3
     clear hK K
     try simp only [Act.put, zA, zB, zC]
     refine wpAnyH_take (i := 14) (oi := ⟨some 154, _, _, _, _, _⟩) (v := ?_) rfl (by kernel_rfl) (by kernel_rfl) (by kernel_rfl) (fun _ _ _ h => HPAN.out _ _ _ _ _ h) (Or.inl ⟨by rfl, ?_⟩) hHeld ?_
     rotate_left
     ·
      intro w hSw
      (try dsimp only at hSw)
      first | (go_simp; done) | (go_simp; with_reducible rfl) | with_reducible rfl
     try simp only [Act.put, zA, zB, zC]
     refine wpAnyH_ready (rs := [15]) (by kernel_rfl) (by simp) ?_
     refine AllReadyH.cons (o := ⟨none, _, _, _, _, _⟩) rfl (fun K hK => ?_) AllReadyH.nil
     go_simp
     refine hK.out _ _ ?_ (fun hHeld => ?_)
     ·
      exact (World.cell?_setCell_other _ _ _ _ (by simp)).trans g3
     clear hK K
     try simp only [Act.put, zA, zB, zC]
     refine wpAnyH_done (by kernel_rfl) ?_ _
     go_wp2_with fail
     go_meet
     have hf := name_next (P := P) h4 hR.1 hP3 HC5.out hR.2 hrow3 hbs hB3
     rw [HX.out] at hf
     exact ⟨a + 1 + 1, _, _, by omega, ⟨ns, HNS.out, Or.inr ⟨h0, kt, hkt, rfl⟩⟩, hf.1, hf.2.1, hf.2.2.1, hf.2.2.2⟩
    ·
     go_simp
     (have h1 := h00.alloc (Obj.cells #[.string ⟨#[111, 117, 116]⟩, .string ⟨#[108, 49]⟩, .string ⟨#[97, 45, 98]⟩] 9); have hk3 := Blk.new W0 9 #[.string ⟨#[111, 117, 116]⟩, .string ⟨#[108, 49]⟩, .string ⟨#[97, 45, 98]⟩]; have hrow1 := World.ownsRow.alloc hrow0 (Obj.cells #[.string ⟨#[111, 117, 116]⟩, .string ⟨#[108, 49]⟩, .string ⟨#[97, 45, 98]⟩] 9); obtain ⟨hP1, hB1⟩ := alloc_keep hP0 HC5.out hB0 (Obj.cells #[.string ⟨#[111, 117, 116]⟩, .string ⟨#[108, 49]⟩, .string ⟨#[97, 45, 98]⟩] 9); have hs3 : hA < W0.heap.size := (by have := h00.size; have := h00.eA; omega); generalize W0.alloc (Obj.cells #[.string ⟨#[111, 117, 116]⟩, .string ⟨#[108, 49]⟩, .string ⟨#[97, 45, 98]⟩] 9) = W1 at *; have c7 := h1.cb.cell 7; have g3 := h1.cb.cell 3; simp only [zD, zE, zF] at c7 g3)
     refine hK.out _ _ ?_ (fun hHeld => ?_)
     ·
      exact g3
     clear hK K
     try simp only [Act.put, zA, zB, zC]
     refine wpAnyH_ready (rs := [1, 8]) (by kernel_rfl) (by simp) ?_
     refine AllReadyH.cons (o := ⟨some 141, _, _, _, _, _⟩) rfl (fun K hK => ?_) (AllReadyH.cons (o := ⟨some 148, _, _, _, _, _⟩) rfl (fun K hK => ?_) AllReadyH.nil)
     ·
      go_simp
      refine hK.out _ _ ?_ (fun hHeld => ?_)
      ·
       exact g3
      clear hK K
      try simp only [Act.put, zA, zB, zC]
      refine wpAnyH_ready (rs := [8]) (by kernel_rfl) (by simp) ?_
      refine AllReadyH.cons (o := ⟨some 148, _, _, _, _, _⟩) rfl (fun K hK => ?_) AllReadyH.nil
      go_simp
      (refine (h1.call HU.out HM.out (by omega) 3 (by omega) (by omega)).mono ?_; rintro e W2 ⟨rfl, h2, hse⟩; have hrow2 : W2.ownsRow B 69 3 v ns.length (flatN ns) := hse ▸ row_set hrow1 (by have := h1.eA; simp; omega) _; obtain ⟨hP2, hB2⟩ := pick_keep hP1 HC5.out hB1 (by have := h1.eA; omega) (by have := h1.eA; omega) hse; replace hk3 : Blk W2 W0.heap.size 9 #[.string ⟨#[111, 117, 116]⟩, .string ⟨#[108, 49]⟩, .string ⟨#[97, 45, 98]⟩] := hse ▸ hk3.far (by simp; omega) _; clear hse; obtain ⟨ht0, ht1⟩ := Cm.pick_lt zs (a + 1) 3 (by omega); generalize Cm.pickS zs (a + 1) 3 = p3 at *; obtain ⟨kt, rfl⟩ := Int.eq_ofNat_of_zero_le ht0; have hkt : kt < 3 := (by omega); have hix := ixS3 W0.heap.size kt hkt; have k3 := txt_cell hk3 kt hkt; have c7 := h2.cb.cell 7; have g3 := h2.cb.cell 3; simp only [zD, zE, zF] at c7 g3)
      refine hK.out _ _ ?_ (fun hHeld => ?_)
      ·
       exact g3
      clear hK K
      try simp only [Act.put, zA, zB, zC]
      refine wpAnyH_take (i := 9) (oi := ⟨some 149, _, _, _, _, _⟩) (v := ?_) rfl (by kernel_rfl) (by kernel_rfl) (by kernel_rfl) (fun _ _ _ h => HPAN.out _ _ _ _ _ h) (Or.inl ⟨by rfl, ?_⟩) hHeld ?_
      rotate_left
      ·
       intro w hSw
       (try dsimp only at hSw)
       first | (go_simp; done) | (go_simp; with_reducible rfl) | with_reducible rfl
      try simp only [Act.put, zA, zB, zC]
      refine wpAnyH_ready (rs := [10]) (by kernel_rfl) (by simp) ?_
      refine AllReadyH.cons (o := ⟨some 150, _, _, _, _, _⟩) rfl (fun K hK => ?_) AllReadyH.nil
      go_simp
      refine hK.out _ _ ?_ (fun hHeld => ?_)
      ·
       exact g3
      clear hK K
      try simp only [Act.put, zA, zB, zC]
      refine wpAnyH_take (i := 11) (oi := ⟨some 151, _, _, _, _, _⟩) (v := ?_) rfl (by kernel_rfl) (by kernel_rfl) (by kernel_rfl) (fun _ _ _ h => HPAN.out _ _ _ _ _ h) (Or.inl ⟨by rfl, ?_⟩) hHeld ?_
      rotate_left
      ·
       intro w hSw
       (try dsimp only at hSw)
       first | (go_simp; done) | (go_simp; with_reducible rfl) | with_reducible rfl
      try simp only [Act.put, zA, zB, zC]
      refine wpAnyH_ready (rs := [12]) (by kernel_rfl) (by simp) ?_
      refine AllReadyH.cons (o := ⟨some 152, _, _, _, _, _⟩) rfl (fun K hK => ?_) AllReadyH.nil
      go_simp
      (have h3 := h2.alloc (Obj.cells #[.int .u8 111, .int .i64 (IntKind.i64.wrap ((ol : Int) - 1)), .string (txt3 kt)] 69); have hbk := Blk.new W2 69 #[.int .u8 111, .int .i64 (IntKind.i64.wrap ((ol : Int) - 1)), .string (txt3 kt)]; have hrow3 := World.ownsRow.alloc hrow2 (Obj.cells #[.int .u8 111, .int .i64 (IntKind.i64.wrap ((ol : Int) - 1)), .string (txt3 kt)] 69); obtain ⟨hP3, hB3⟩ := alloc_keep hP2 HC5.out hB2 (Obj.cells #[.int .u8 111, .int .i64 (IntKind.i64.wrap ((ol : Int) - 1)), .string (txt3 kt)] 69); generalize W2.alloc (Obj.cells #[.int .u8 111, .int .i64 (IntKind.i64.wrap ((ol : Int) - 1)), .string (txt3 kt)] 69) = W3 at *; have c7 := h3.cb.cell 7; have g3 := h3.cb.cell 3; simp only [zD, zE, zF] at c7 g3)
      refine hK.out _ _ ?_ (fun hHeld => ?_)
      ·
       exact g3
      clear hK K
      try simp only [Act.put, zA, zB, zC]
      refine wpAnyH_ready (rs := [13]) (by kernel_rfl) (by simp) ?_
      refine AllReadyH.cons (o := ⟨some 153, _, _, _, _, _⟩) rfl (fun K hK => ?_) AllReadyH.nil
      (rw [if_pos (by rfl)]; refine oper_app (.tmp 141) (.tmp 152) 27 rfl v (.slice (some ⟨W2.heap.size, 0, none⟩) 1 1) rfl rfl (fun v' w' => w'.ownsRow B 69 3 v' (ns.length + 1) (flatN ns ++ [.int .u8 111, .int .i64 (IntKind.i64.wrap ((ol : Int) - 1)), .string (txt3 kt)]) ∧ W3.grownBy w' v.ownBlock) (fun ty => (by obtain ⟨v', w', r1, r2, r3, _⟩ := app_name W3 B ty v ns.length _ hrow3 W2.heap.size 1 111 _ _ hbk (by rcases HNS.out with h | h <;> simp [h]) hB3; exact ⟨v', w', r1, r2, r3⟩)) ?_; intro v' W4 hR; obtain ⟨AL', cL', rfl⟩ := row_slice hR.1; have h4 := h3.grown hR.2 (fun k e => Nat.le_trans hbs (row_base hrow3 k e)); have f7 := h4.cb.frozen 7; have c7 := h4.cb.cell 7; have g3 := h4.cb.cell 3; simp only [zD, zE, zF] at c7 g3)
      refine hK.out _ _ ?_ (fun hHeld => ?_)
      ·
       exact g3
      clear hK K
      try simp only [Act.put, zA, zB, zC]
      refine wpAnyH_take (i := 14) (oi := ⟨some 154, _, _, _, _, _⟩) (v := ?_) rfl (by kernel_rfl) (by kernel_rfl) (by kernel_rfl) (fun _ _ _ h => HPAN.out _ _ _ _ _ h) (Or.inl ⟨by rfl, ?_⟩) hHeld ?_
      rotate_left
      ·
       intro w hSw
       (try dsimp only at hSw)
       first | (go_simp; done) | (go_simp; with_reducible rfl) | with_reducible rfl
      try simp only [Act.put, zA, zB, zC]
      refine wpAnyH_ready (rs := [15]) (by kernel_rfl) (by simp) ?_
      refine AllReadyH.cons (o := ⟨none, _, _, _, _, _⟩) rfl (fun K hK => ?_) AllReadyH.nil
      go_simp
      refine hK.out _ _ ?_ (fun hHeld => ?_)
      ·
       exact (World.cell?_setCell_other _ _ _ _ (by simp)).trans g3
      clear hK K
      try simp only [Act.put, zA, zB, zC]
      refine wpAnyH_done (by kernel_rfl) ?_ _
      go_wp2_with fail
      go_meet
      have hf := name_next (P := P) h4 hR.1 hP3 HC5.out hR.2 hrow3 hbs hB3
      rw [HX.out] at hf
      exact ⟨a + 1 + 1, _, _, by omega, ⟨ns, HNS.out, Or.inr ⟨h0, kt, hkt, rfl⟩⟩, hf.1, hf.2.1, hf.2.2.1, hf.2.2.2⟩
     go_simp
     (refine (h1.call HU.out HM.out (by omega) 3 (by omega) (by omega)).mono ?_; rintro e W2 ⟨rfl, h2, hse⟩; have hrow2 : W2.ownsRow B 69 3 v ns.length (flatN ns) := hse ▸ row_set hrow1 (by have := h1.eA; simp; omega) _; obtain ⟨hP2, hB2⟩ := pick_keep hP1 HC5.out hB1 (by have := h1.eA; omega) (by have := h1.eA; omega) hse; replace hk3 : Blk W2 W0.heap.size 9 #[.string ⟨#[111, 117, 116]⟩, .string ⟨#[108, 49]⟩, .string ⟨#[97, 45, 98]⟩] := hse ▸ hk3.far (by simp; omega) _; clear hse; obtain ⟨ht0, ht1⟩ := Cm.pick_lt zs (a + 1) 3 (by omega); generalize Cm.pickS zs (a + 1) 3 = p3 at *; obtain ⟨kt, rfl⟩ := Int.eq_ofNat_of_zero_le ht0; have hkt : kt < 3 := (by omega); have hix := ixS3 W0.heap.size kt hkt; have k3 := txt_cell hk3 kt hkt; have c7 := h2.cb.cell 7; have g3 := h2.cb.cell 3; simp only [zD, zE, zF] at c7 g3)
     refine hK.out _ _ ?_ (fun hHeld => ?_)
     ·
      exact g3
     clear hK K
     try simp only [Act.put, zA, zB, zC]
     refine wpAnyH_take (i := 9) (oi := ⟨some 149, _, _, _, _, _⟩) (v := ?_) rfl (by kernel_rfl) (by kernel_rfl) (by kernel_rfl) (fun _ _ _ h => HPAN.out _ _ _ _ _ h) (Or.inl ⟨by rfl, ?_⟩) hHeld ?_
     rotate_left
     ·
      intro w hSw
      (try dsimp only at hSw)
      first | (go_simp; done) | (go_simp; with_reducible rfl) | with_reducible rfl
     try simp only [Act.put, zA, zB, zC]
     refine wpAnyH_ready (rs := [1, 10]) (by kernel_rfl) (by simp) ?_
     refine AllReadyH.cons (o := ⟨some 141, _, _, _, _, _⟩) rfl (fun K hK => ?_) (AllReadyH.cons (o := ⟨some 150, _, _, _, _, _⟩) rfl (fun K hK => ?_) AllReadyH.nil)
     ·
      go_simp
      refine hK.out _ _ ?_ (fun hHeld => ?_)
      ·
       exact g3
      clear hK K
      try simp only [Act.put, zA, zB, zC]
      refine wpAnyH_ready (rs := [10]) (by kernel_rfl) (by simp) ?_
      refine AllReadyH.cons (o := ⟨some 150, _, _, _, _, _⟩) rfl (fun K hK => ?_) AllReadyH.nil
      go_simp
      refine hK.out _ _ ?_ (fun hHeld => ?_)
      ·
       exact g3
      clear hK K
      try simp only [Act.put, zA, zB, zC]
      refine wpAnyH_take (i := 11) (oi := ⟨some 151, _, _, _, _, _⟩) (v := ?_) rfl (by kernel_rfl) (by kernel_rfl) (by kernel_rfl) (fun _ _ _ h => HPAN.out _ _ _ _ _ h) (Or.inl ⟨by rfl, ?_⟩) hHeld ?_
      rotate_left
      ·
       intro w hSw
       (try dsimp only at hSw)
       first | (go_simp; done) | (go_simp; with_reducible rfl) | with_reducible rfl
      try simp only [Act.put, zA, zB, zC]
      refine wpAnyH_ready (rs := [12]) (by kernel_rfl) (by simp) ?_
      refine AllReadyH.cons (o := ⟨some 152, _, _, _, _, _⟩) rfl (fun K hK => ?_) AllReadyH.nil
      go_simp
      (have h3 := h2.alloc (Obj.cells #[.int .u8 111, .int .i64 (IntKind.i64.wrap ((ol : Int) - 1)), .string (txt3 kt)] 69); have hbk := Blk.new W2 69 #[.int .u8 111, .int .i64 (IntKind.i64.wrap ((ol : Int) - 1)), .string (txt3 kt)]; have hrow3 := World.ownsRow.alloc hrow2 (Obj.cells #[.int .u8 111, .int .i64 (IntKind.i64.wrap ((ol : Int) - 1)), .string (txt3 kt)] 69); obtain ⟨hP3, hB3⟩ := alloc_keep hP2 HC5.out hB2 (Obj.cells #[.int .u8 111, .int .i64 (IntKind.i64.wrap ((ol : Int) - 1)), .string (txt3 kt)] 69); generalize W2.alloc (Obj.cells #[.int .u8 111, .int .i64 (IntKind.i64.wrap ((ol : Int) - 1)), .string (txt3 kt)] 69) = W3 at *; have c7 := h3.cb.cell 7; have g3 := h3.cb.cell 3; simp only [zD, zE, zF] at c7 g3)
      refine hK.out _ _ ?_ (fun hHeld => ?_)
      ·
       exact g3
      clear hK K
      try simp only [Act.put, zA, zB, zC]
      refine wpAnyH_ready (rs := [13]) (by kernel_rfl) (by simp) ?_
      refine AllReadyH.cons (o := ⟨some 153, _, _, _, _, _⟩) rfl (fun K hK => ?_) AllReadyH.nil
      (rw [if_pos (by rfl)]; refine oper_app (.tmp 141) (.tmp 152) 27 rfl v (.slice (some ⟨W2.heap.size, 0, none⟩) 1 1) rfl rfl (fun v' w' => w'.ownsRow B 69 3 v' (ns.length + 1) (flatN ns ++ [.int .u8 111, .int .i64 (IntKind.i64.wrap ((ol : Int) - 1)), .string (txt3 kt)]) ∧ W3.grownBy w' v.ownBlock) (fun ty => (by obtain ⟨v', w', r1, r2, r3, _⟩ := app_name W3 B ty v ns.length _ hrow3 W2.heap.size 1 111 _ _ hbk (by rcases HNS.out with h | h <;> simp [h]) hB3; exact ⟨v', w', r1, r2, r3⟩)) ?_; intro v' W4 hR; obtain ⟨AL', cL', rfl⟩ := row_slice hR.1; have h4 := h3.grown hR.2 (fun k e => Nat.le_trans hbs (row_base hrow3 k e)); have f7 := h4.cb.frozen 7; have c7 := h4.cb.cell 7; have g3 := h4.cb.cell 3; simp only [zD, zE, zF] at c7 g3)
      refine hK.out _ _ ?_ (fun hHeld => ?_)
      ·
       exact g3
      clear hK K
      try simp only [Act.put, zA, zB, zC]
      refine wpAnyH_take (i := 14) (oi := ⟨some 154, _, _, _, _, _⟩) (v := ?_) rfl (by kernel_rfl) (by kernel_rfl) (by kernel_rfl) (fun _ _ _ h => HPAN.out _ _ _ _ _ h) (Or.inl ⟨by rfl, ?_⟩) hHeld ?_
      rotate_left
      ·
       intro w hSw
       (try dsimp only at hSw)
       first | (go_simp; done) | (go_simp; with_reducible rfl) | with_reducible rfl
      try simp only [Act.put, zA, zB, zC]
      refine wpAnyH_ready (rs := [15]) (by kernel_rfl) (by simp) ?_
      refine AllReadyH.cons (o := ⟨none, _, _, _, _, _⟩) rfl (fun K hK => ?_) AllReadyH.nil
      go_simp
      refine hK.out _ _ ?_ (fun hHeld => ?_)
      ·
       exact (World.cell?_setCell_other _ _ _ _ (by simp)).trans g3
      clear hK K
      try simp only [Act.put, zA, zB, zC]
      refine wpAnyH_done (by kernel_rfl) ?_ _
      go_wp2_with fail
      go_meet
      have hf := name_next (P := P) h4 hR.1 hP3 HC5.out hR.2 hrow3 hbs hB3
      rw [HX.out] at hf
      exact ⟨a + 1 + 1, _, _, by omega, ⟨ns, HNS.out, Or.inr ⟨h0, kt, hkt, rfl⟩⟩, hf.1, hf.2.1, hf.2.2.1, hf.2.2.2⟩
     go_simp
     refine hK.out _ _ ?_ (fun hHeld => ?_)
     ·
      exact g3
     clear hK K
     try simp only [Act.put, zA, zB, zC]
     refine wpAnyH_take (i := 11) (oi := ⟨some 151, _, _, _, _, _⟩) (v := ?_) rfl (by kernel_rfl) (by kernel_rfl) (by kernel_rfl) (fun _ _ _ h => HPAN.out _ _ _ _ _ h) (Or.inl ⟨by rfl, ?_⟩) hHeld ?_
     rotate_left
     ·
      intro w hSw
      (try dsimp only at hSw)
      first | (go_simp; done) | (go_simp; with_reducible rfl) | with_reducible rfl
     try simp only [Act.put, zA, zB, zC]
     refine wpAnyH_ready (rs := [1, 12]) (by kernel_rfl) (by simp) ?_
     refine AllReadyH.cons (o := ⟨some 141, _, _, _, _, _⟩) rfl (fun K hK => ?_) (AllReadyH.cons (o := ⟨some 152, _, _, _, _, _⟩) rfl (fun K hK => ?_) AllReadyH.nil)
     ·
      go_simp
      refine hK.out _ _ ?_ (fun hHeld => ?_)
      ·
       exact g3
      clear hK K
      try simp only [Act.put, zA, zB, zC]
      refine wpAnyH_ready (rs := [12]) (by kernel_rfl) (by simp) ?_
      refine AllReadyH.cons (o := ⟨some 152, _, _, _, _, _⟩) rfl (fun K hK => ?_) AllReadyH.nil
      go_simp
      (have h3 := h2.alloc (Obj.cells #[.int .u8 111, .int .i64 (IntKind.i64.wrap ((ol : Int) - 1)), .string (txt3 kt)] 69); have hbk := Blk.new W2 69 #[.int .u8 111, .int .i64 (IntKind.i64.wrap ((ol : Int) - 1)), .string (txt3 kt)]; have hrow3 := World.ownsRow.alloc hrow2 (Obj.cells #[.int .u8 111, .int .i64 (IntKind.i64.wrap ((ol : Int) - 1)), .string (txt3 kt)] 69); obtain ⟨hP3, hB3⟩ := alloc_keep hP2 HC5.out hB2 (Obj.cells #[.int .u8 111, .int .i64 (IntKind.i64.wrap ((ol : Int) - 1)), .string (txt3 kt)] 69); generalize W2.alloc (Obj.cells #[.int .u8 111, .int .i64 (IntKind.i64.wrap ((ol : Int) - 1)), .string (txt3 kt)] 69) = W3 at *; have c7 := h3.cb.cell 7; have g3 := h3.cb.cell 3; simp only [zD, zE, zF] at c7 g3)
      refine hK.out _ _ ?_ (fun hHeld => ?_)
      ·
       exact g3
      clear hK K
      try simp only [Act.put, zA, zB, zC]
      refine wpAnyH_ready (rs := [13]) (by kernel_rfl) (by simp) ?_
      refine AllReadyH.cons (o := ⟨some 153, _, _, _, _, _⟩) rfl (fun K hK => ?_) AllReadyH.nil
      (rw [if_pos (by rfl)]; refine oper_app (.tmp 141) (.tmp 152) 27 rfl v (.slice (some ⟨W2.heap.size, 0, none⟩) 1 1) rfl rfl (fun v' w' => w'.ownsRow B 69 3 v' (ns.length + 1) (flatN ns ++ [.int .u8 111, .int .i64 (IntKind.i64.wrap ((ol : Int) - 1)), .string (txt3 kt)]) ∧ W3.grownBy w' v.ownBlock) (fun ty => (by obtain ⟨v', w', r1, r2, r3, _⟩ := app_name W3 B ty v ns.length _ hrow3 W2.heap.size 1 111 _ _ hbk (by rcases HNS.out with h | h <;> simp [h]) hB3; exact ⟨v', w', r1, r2, r3⟩)) ?_; intro v' W4 hR; obtain ⟨AL', cL', rfl⟩ := row_slice hR.1; have h4 := h3.grown hR.2 (fun k e => Nat.le_trans hbs (row_base hrow3 k e)); have f7 := h4.cb.frozen 7; have c7 := h4.cb.cell 7; have g3 := h4.cb.cell 3; simp only [zD, zE, zF] at c7 g3)
      refine hK.out _ _ ?_ (fun hHeld => ?_)
      ·
       exact g3
      clear hK K
      try simp only [Act.put, zA, zB, zC]
      refine wpAnyH_take (i := 14) (oi := ⟨some 154, _, _, _, _, _⟩) (v := ?_) rfl (by kernel_rfl) (by kernel_rfl) (by kernel_rfl) (fun _ _ _ h => HPAN.out _ _ _ _ _ h) (Or.inl ⟨by rfl, ?_⟩) hHeld ?_
      rotate_left
      ·
       intro w hSw
       (try dsimp only at hSw)
       first | (go_simp; done) | (go_simp; with_reducible rfl) | with_reducible rfl
      try simp only [Act.put, zA, zB, zC]
      refine wpAnyH_ready (rs := [15]) (by kernel_rfl) (by simp) ?_
      refine AllReadyH.cons (o := ⟨none, _, _, _, _, _⟩) rfl (fun K hK => ?_) AllReadyH.nil
      go_simp
      refine hK.out _ _ ?_ (fun hHeld => ?_)
      ·
       exact (World.cell?_setCell_other _ _ _ _ (by simp)).trans g3
      clear hK K
      try simp only [Act.put, zA, zB, zC]
      refine wpAnyH_done (by kernel_rfl) ?_ _
      go_wp2_with fail
      go_meet
      have hf := name_next (P := P) h4 hR.1 hP3 HC5.out hR.2 hrow3 hbs hB3
      rw [HX.out] at hf
      exact ⟨a + 1 + 1, _, _, by omega, ⟨ns, HNS.out, Or.inr ⟨h0, kt, hkt, rfl⟩⟩, hf.1, hf.2.1, hf.2.2.1, hf.2.2.2⟩
     go_simp
     (have h3 := h2.alloc (Obj.cells #[.int .u8 111, .int .i64 (IntKind.i64.wrap ((ol : Int) - 1)), .string (txt3 kt)] 69); have hbk := Blk.new W2 69 #[.int .u8 111, .int .i64 (IntKind.i64.wrap ((ol : Int) - 1)), .string (txt3 kt)]; have hrow3 := World.ownsRow.alloc hrow2 (Obj.cells #[.int .u8 111, .int .i64 (IntKind.i64.wrap ((ol : Int) - 1)), .string (txt3 kt)] 69); obtain ⟨hP3, hB3⟩ := alloc_keep hP2 HC5.out hB2 (Obj.cells #[.int .u8 111, .int .i64 (IntKind.i64.wrap ((ol : Int) - 1)), .string (txt3 kt)] 69); generalize W2.alloc (Obj.cells #[.int .u8 111, .int .i64 (IntKind.i64.wrap ((ol : Int) - 1)), .string (txt3 kt)] 69) = W3 at *; have c7 := h3.cb.cell 7; have g3 := h3.cb.cell 3; simp only [zD, zE, zF] at c7 g3)
     refine hK.out _ _ ?_ (fun hHeld => ?_)
     ·
      exact g3
     clear hK K
     try simp only [Act.put, zA, zB, zC]
     refine wpAnyH_ready (rs := [1]) (by kernel_rfl) (by simp) ?_
     refine AllReadyH.cons (o := ⟨some 141, _, _, _, _, _⟩) rfl (fun K hK => ?_) AllReadyH.nil
     go_simp
     refine hK.out _ _ ?_ (fun hHeld => ?_)
     ·
      exact g3
     clear hK K
     try simp only [Act.put, zA, zB, zC]
     refine wpAnyH_ready (rs := [13]) (by kernel_rfl) (by simp) ?_
     refine AllReadyH.cons (o := ⟨some 153, _, _, _, _, _⟩) rfl (fun K hK => ?_) AllReadyH.nil
     (rw [if_pos (by rfl)]; refine oper_app (.tmp 141) (.tmp 152) 27 rfl v (.slice (some ⟨W2.heap.size, 0, none⟩) 1 1) rfl rfl (fun v' w' => w'.ownsRow B 69 3 v' (ns.length + 1) (flatN ns ++ [.int .u8 111, .int .i64 (IntKind.i64.wrap ((ol : Int) - 1)), .string (txt3 kt)]) ∧ W3.grownBy w' v.ownBlock) (fun ty => (by obtain ⟨v', w', r1, r2, r3, _⟩ := app_name W3 B ty v ns.length _ hrow3 W2.heap.size 1 111 _ _ hbk (by rcases HNS.out with h | h <;> simp [h]) hB3; exact ⟨v', w', r1, r2, r3⟩)) ?_; intro v' W4 hR; obtain ⟨AL', cL', rfl⟩ := row_slice hR.1; have h4 := h3.grown hR.2 (fun k e => Nat.le_trans hbs (row_base hrow3 k e)); have f7 := h4.cb.frozen 7; have c7 := h4.cb.cell 7; have g3 := h4.cb.cell 3; simp only [zD, zE, zF] at c7 g3)
     refine hK.out _ _ ?_ (fun hHeld => ?_)
     ·
      exact g3
     clear hK K
     try simp only [Act.put, zA, zB, zC]
     refine wpAnyH_take (i := 14) (oi := ⟨some 154, _, _, _, _, _⟩) (v := ?_) rfl (by kernel_rfl) (by kernel_rfl) (by kernel_rfl) (fun _ _ _ h => HPAN.out _ _ _ _ _ h) (Or.inl ⟨by rfl, ?_⟩) hHeld ?_
     rotate_left
     ·
      intro w hSw
      (try dsimp only at hSw)
      first | (go_simp; done) | (go_simp; with_reducible rfl) | with_reducible rfl
     try simp only [Act.put, zA, zB, zC]
     refine wpAnyH_ready (rs := [15]) (by kernel_rfl) (by simp) ?_
     refine AllReadyH.cons (o := ⟨none, _, _, _, _, _⟩) rfl (fun K hK => ?_) AllReadyH.nil
     go_simp
     refine hK.out _ _ ?_ (fun hHeld => ?_)
     ·
      exact (World.cell?_setCell_other _ _ _ _ (by simp)).trans g3
     clear hK K
     try simp only [Act.put, zA, zB, zC]
     refine wpAnyH_done (by kernel_rfl) ?_ _
     go_wp2_with fail
     go_meet
     have hf := name_next (P := P) h4 hR.1 hP3 HC5.out hR.2 hrow3 hbs hB3
     rw [HX.out] at hf
     exact ⟨a + 1 + 1, _, _, by omega, ⟨ns, HNS.out, Or.inr ⟨h0, kt, hkt, rfl⟩⟩, hf.1, hf.2.1, hf.2.2.1, hf.2.2.2⟩
    go_simp
    (refine (h00.call HU.out HM.out (by omega) 3 (by omega) (by omega)).mono ?_; rintro e W1 ⟨rfl, h1, hse⟩; have hrow1 : W1.ownsRow B 69 3 v ns.length (flatN ns) := hse ▸ row_set hrow0 (by have := h00.eA; simp; omega) _; obtain ⟨hP1, hB1⟩ := pick_keep hP0 HC5.out hB0 (by have := h00.eA; omega) (by have := h00.eA; omega) hse; clear hse; obtain ⟨ht0, ht1⟩ := Cm.pick_lt zs (a + 1) 3 (by omega); generalize Cm.pickS zs (a + 1) 3 = p3 at *; obtain ⟨kt, rfl⟩ := Int.eq_ofNat_of_zero_le ht0; have hkt : kt < 3 := (by omega); have c7 := h1.cb.cell 7; have g3 := h1.cb.cell 3; simp only [zD, zE, zF] at c7 g3)
    refine hK.out _ _ ?_ (fun hHeld => ?_)
    ·
     exact g3
    clear hK K
    try simp only [Act.put, zA, zB, zC]
    refine wpAnyH_ready (rs := [1, 6]) (by kernel_rfl) (by simp) ?_
    refine AllReadyH.cons (o := ⟨some 141, _, _, _, _, _⟩) rfl (fun K hK => ?_) (AllReadyH.cons (o := ⟨some 146, _, _, _, _, _⟩) rfl (fun K hK => ?_) AllReadyH.nil)
    ·
     go_simp
     refine hK.out _ _ ?_ (fun hHeld => ?_)
     ·
      exact g3
     clear hK K
     try simp only [Act.put, zA, zB, zC]
     refine wpAnyH_ready (rs := [6]) (by kernel_rfl) (by simp) ?_
     refine AllReadyH.cons (o := ⟨some 146, _, _, _, _, _⟩) rfl (fun K hK => ?_) AllReadyH.nil
     go_simp
     (have h2 := h1.alloc (Obj.cells #[.string ⟨#[111, 117, 116]⟩, .string ⟨#[108, 49]⟩, .string ⟨#[97, 45, 98]⟩] 9); have hk3 := Blk.new W1 9 #[.string ⟨#[111, 117, 116]⟩, .string ⟨#[108, 49]⟩, .string ⟨#[97, 45, 98]⟩]; have hrow2 := World.ownsRow.alloc hrow1 (Obj.cells #[.string ⟨#[111, 117, 116]⟩, .string ⟨#[108, 49]⟩, .string ⟨#[97, 45, 98]⟩] 9); obtain ⟨hP2, hB2⟩ := alloc_keep hP1 HC5.out hB1 (Obj.cells #[.string ⟨#[111, 117, 116]⟩, .string ⟨#[108, 49]⟩, .string ⟨#[97, 45, 98]⟩] 9); have hs3 : hA < W1.heap.size := (by have := h1.size; have := h1.eA; omega); generalize W1.alloc (Obj.cells #[.string ⟨#[111, 117, 116]⟩, .string ⟨#[108, 49]⟩, .string ⟨#[97, 45, 98]⟩] 9) = W2 at *; have hix := ixS3 W1.heap.size kt hkt; have k3 := txt_cell hk3 kt hkt; have c7 := h2.cb.cell 7; have g3 := h2.cb.cell 3; simp only [zD, zE, zF] at c7 g3)
     refine hK.out _ _ ?_ (fun hHeld => ?_)
     ·
      exact g3
     clear hK K
     try simp only [Act.put, zA, zB, zC]
     refine wpAnyH_take (i := 9) (oi := ⟨some 149, _, _, _, _, _⟩) (v := ?_) rfl (by kernel_rfl) (by kernel_rfl) (by kernel_rfl) (fun _ _ _ h => HPAN.out _ _ _ _ _ h) (Or.inl ⟨by rfl, ?_⟩) hHeld ?_
     rotate_left
     ·
      intro w hSw
      (try dsimp only at hSw)
      first | (go_simp; done) | (go_simp; with_reducible rfl) | with_reducible rfl
     try simp only [Act.put, zA, zB, zC]
     refine wpAnyH_ready (rs := [10]) (by kernel_rfl) (by simp) ?_
     refine AllReadyH.cons (o := ⟨some 150, _, _, _, _, _⟩) rfl (fun K hK => ?_) AllReadyH.nil
     go_simp
     refine hK.out _ _ ?_ (fun hHeld => ?_)
     ·
      exact g3
     clear hK K
     try simp only [Act.put, zA, zB, zC]
     refine wpAnyH_take (i := 11) (oi := ⟨some 151, _, _, _, _, _⟩) (v := ?_) rfl (by kernel_rfl) (by kernel_rfl) (by kernel_rfl) (fun _ _ _ h => HPAN.out _ _ _ _ _ h) (Or.inl ⟨by rfl, ?_⟩) hHeld ?_
     rotate_left
     ·
      intro w hSw
      (try dsimp only at hSw)
      first | (go_simp; done) | (go_simp; with_reducible rfl) | with_reducible rfl
     try simp only [Act.put, zA, zB, zC]
     refine wpAnyH_ready (rs := [12]) (by kernel_rfl) (by simp) ?_
     refine AllReadyH.cons (o := ⟨some 152, _, _, _, _, _⟩) rfl (fun K hK => ?_) AllReadyH.nil
     go_simp
     (have h3 := h2.alloc (Obj.cells #[.int .u8 111, .int .i64 (IntKind.i64.wrap ((ol : Int) - 1)), .string (txt3 kt)] 69); have hbk := Blk.new W2 69 #[.int .u8 111, .int .i64 (IntKind.i64.wrap ((ol : Int) - 1)), .string (txt3 kt)]; have hrow3 := World.ownsRow.alloc hrow2 (Obj.cells #[.int .u8 111, .int .i64 (IntKind.i64.wrap ((ol : Int) - 1)), .string (txt3 kt)] 69); obtain ⟨hP3, hB3⟩ := alloc_keep hP2 HC5.out hB2 (Obj.cells #[.int .u8 111, .int .i64 (IntKind.i64.wrap ((ol : Int) - 1)), .string (txt3 kt)] 69); generalize W2.alloc (Obj.cells #[.int .u8 111, .int .i64 (IntKind.i64.wrap ((ol : Int) - 1)), .string (txt3 kt)] 69) = W3 at *; have c7 := h3.cb.cell 7; have g3 := h3.cb.cell 3; simp only [zD, zE, zF] at c7 g3)
     refine hK.out _ _ ?_ (fun hHeld => ?_)
     ·
      exact g3
     clear hK K
     try simp only [Act.put, zA, zB, zC]
     refine wpAnyH_ready (rs := [13]) (by kernel_rfl) (by simp) ?_
     refine AllReadyH.cons (o := ⟨some 153, _, _, _, _, _⟩) rfl (fun K hK => ?_) AllReadyH.nil
     (rw [if_pos (by rfl)]; refine oper_app (.tmp 141) (.tmp 152) 27 rfl v (.slice (some ⟨W2.heap.size, 0, none⟩) 1 1) rfl rfl (fun v' w' => w'.ownsRow B 69 3 v' (ns.length + 1) (flatN ns ++ [.int .u8 111, .int .i64 (IntKind.i64.wrap ((ol : Int) - 1)), .string (txt3 kt)]) ∧ W3.grownBy w' v.ownBlock) (fun ty => (by obtain ⟨v', w', r1, r2, r3, _⟩ := app_name W3 B ty v ns.length _ hrow3 W2.heap.size 1 111 _ _ hbk (by rcases HNS.out with h | h <;> simp [h]) hB3; exact ⟨v', w', r1, r2, r3⟩)) ?_; intro v' W4 hR; obtain ⟨AL', cL', rfl⟩ := row_slice hR.1; have h4 := h3.grown hR.2 (fun k e => Nat.le_trans hbs (row_base hrow3 k e)); have f7 := h4.cb.frozen 7; have c7 := h4.cb.cell 7; have g3 := h4.cb.cell 3; simp only [zD, zE, zF] at c7 g3)
     refine hK.out _ _ ?_ (fun hHeld => ?_)
     ·
      exact g3
     clear hK K
     try simp only [Act.put, zA, zB, zC]
     refine wpAnyH_take (i := 14) (oi := ⟨some 154, _, _, _, _, _⟩) (v := ?_) rfl (by kernel_rfl) (by kernel_rfl) (by kernel_rfl) (fun _ _ _ h => HPAN.out _ _ _ _ _ h) (Or.inl ⟨by rfl, ?_⟩) hHeld ?_
     rotate_left
     ·
      intro w hSw
      (try dsimp only at hSw)
      first | (go_simp; done) | (go_simp; with_reducible rfl) | with_reducible rfl
     try simp only [Act.put, zA, zB, zC]
     refine wpAnyH_ready (rs := [15]) (by kernel_rfl) (by simp) ?_
     refine AllReadyH.cons (o := ⟨none, _, _, _, _, _⟩) rfl (fun K hK => ?_) AllReadyH.nil
     go_simp
     refine hK.out _ _ ?_ (fun hHeld => ?_)
     ·
      exact (World.cell?_setCell_other _ _ _ _ (by simp)).trans g3
     clear hK K
     try simp only [Act.put, zA, zB, zC]
     refine wpAnyH_done (by kernel_rfl) ?_ _
     go_wp2_with fail
     go_meet
     have hf := name_next (P := P) h4 hR.1 hP3 HC5.out hR.2 hrow3 hbs hB3
     rw [HX.out] at hf
     exact ⟨a + 1 + 1, _, _, by omega, ⟨ns, HNS.out, Or.inr ⟨h0, kt, hkt, rfl⟩⟩, hf.1, hf.2.1, hf.2.2.1, hf.2.2.2⟩
    go_simp
    (have h2 := h1.alloc (Obj.cells #[.string ⟨#[111, 117, 116]⟩, .string ⟨#[108, 49]⟩, .string ⟨#[97, 45, 98]⟩] 9); have hk3 := Blk.new W1 9 #[.string ⟨#[111, 117, 116]⟩, .string ⟨#[108, 49]⟩, .string ⟨#[97, 45, 98]⟩]; have hrow2 := World.ownsRow.alloc hrow1 (Obj.cells #[.string ⟨#[111, 117, 116]⟩, .string ⟨#[108, 49]⟩, .string ⟨#[97, 45, 98]⟩] 9); obtain ⟨hP2, hB2⟩ := alloc_keep hP1 HC5.out hB1 (Obj.cells #[.string ⟨#[111, 117, 116]⟩, .string ⟨#[108, 49]⟩, .string ⟨#[97, 45, 98]⟩] 9); have hs3 : hA < W1.heap.size := (by have := h1.size; have := h1.eA; omega); generalize W1.alloc (Obj.cells #[.string ⟨#[111, 117, 116]⟩, .string ⟨#[108, 49]⟩, .string ⟨#[97, 45, 98]⟩] 9) = W2 at *; have hix := ixS3 W1.heap.size kt hkt; have k3 := txt_cell hk3 kt hkt; have c7 := h2.cb.cell 7; have g3 := h2.cb.cell 3; simp only [zD, zE, zF] at c7 g3)
    refine hK.out _ _ ?_ (fun hHeld => ?_)
    ·
     exact g3
    clear hK K
    try simp only [Act.put, zA, zB, zC]
    refine wpAnyH_take (i := 9) (oi := ⟨some 149, _, _, _, _, _⟩) (v := ?_) rfl (by kernel_rfl) (by kernel_rfl) (by kernel_rfl) (fun _ _ _ h => HPAN.out _ _ _ _ _ h) (Or.inl ⟨by rfl, ?_⟩) hHeld ?_
    rotate_left
    ·
     intro w hSw
     (try dsimp only at hSw)
     first | (go_simp; done) | (go_simp; with_reducible rfl) | with_reducible rfl
    try simp only [Act.put, zA, zB, zC]
    refine wpAnyH_ready (rs := [1, 10]) (by kernel_rfl) (by simp) ?_
    refine AllReadyH.cons (o := ⟨some 141, _, _, _, _, _⟩) rfl (fun K hK => ?_) (AllReadyH.cons (o := ⟨some 150, _, _, _, _, _⟩) rfl (fun K hK => ?_) AllReadyH.nil)
    ·
     go_simp
     refine hK.out _ _ ?_ (fun hHeld => ?_)
     ·
      exact g3
     clear hK K
     try simp only [Act.put, zA, zB, zC]
     refine wpAnyH_ready (rs := [10]) (by kernel_rfl) (by simp) ?_
     refine AllReadyH.cons (o := ⟨some 150, _, _, _, _, _⟩) rfl (fun K hK => ?_) AllReadyH.nil
     go_simp
     refine hK.out _ _ ?_ (fun hHeld => ?_)
     ·
      exact g3
     clear hK K
     try simp only [Act.put, zA, zB, zC]
     refine wpAnyH_take (i := 11) (oi := ⟨some 151, _, _, _, _, _⟩) (v := ?_) rfl (by kernel_rfl) (by kernel_rfl) (by kernel_rfl) (fun _ _ _ h => HPAN.out _ _ _ _ _ h) (Or.inl ⟨by rfl, ?_⟩) hHeld ?_
     rotate_left
     ·
      intro w hSw
      (try dsimp only at hSw)
      first | (go_simp; done) | (go_simp; with_reducible rfl) | with_reducible rfl
     try simp only [Act.put, zA, zB, zC]
     refine wpAnyH_ready (rs := [12]) (by kernel_rfl) (by simp) ?_
     refine AllReadyH.cons (o := ⟨some 152, _, _, _, _, _⟩) rfl (fun K hK => ?_) AllReadyH.nil
     go_simp
     (have h3 := h2.alloc (Obj.cells #[.int .u8 111, .int .i64 (IntKind.i64.wrap ((ol : Int) - 1)), .string (txt3 kt)] 69); have hbk := Blk.new W2 69 #[.int .u8 111, .int .i64 (IntKind.i64.wrap ((ol : Int) - 1)), .string (txt3 kt)]; have hrow3 := World.ownsRow.alloc hrow2 (Obj.cells #[.int .u8 111, .int .i64 (IntKind.i64.wrap ((ol : Int) - 1)), .string (txt3 kt)] 69); obtain ⟨hP3, hB3⟩ := alloc_keep hP2 HC5.out hB2 (Obj.cells #[.int .u8 111, .int .i64 (IntKind.i64.wrap ((ol : Int) - 1)), .string (txt3 kt)] 69); generalize W2.alloc (Obj.cells #[.int .u8 111, .int .i64 (IntKind.i64.wrap ((ol : Int) - 1)), .string (txt3 kt)] 69) = W3 at *; have c7 := h3.cb.cell 7; have g3 := h3.cb.cell 3; simp only [zD, zE, zF] at c7 g3)
     refine hK.out _ _ ?_ (fun hHeld => ?_)
     ·
      exact g3
     clear hK K
     try simp only [Act.put, zA, zB, zC]
     refine wpAnyH_ready (rs := [13]) (by kernel_rfl) (by simp) ?_
     refine AllReadyH.cons (o := ⟨some 153, _, _, _, _, _⟩) rfl (fun K hK => ?_) AllReadyH.nil
     (rw [if_pos (by rfl)]; refine oper_app (.tmp 141) (.tmp 152) 27 rfl v (.slice (some ⟨W2.heap.size, 0, none⟩) 1 1) rfl rfl (fun v' w' => w'.ownsRow B 69 3 v' (ns.length + 1) (flatN ns ++ [.int .u8 111, .int .i64 (IntKind.i64.wrap ((ol : Int) - 1)), .string (txt3 kt)]) ∧ W3.grownBy w' v.ownBlock) (fun ty => (by obtain ⟨v', w', r1, r2, r3, _⟩ := app_name W3 B ty v ns.length _ hrow3 W2.heap.size 1 111 _ _ hbk (by rcases HNS.out with h | h <;> simp [h]) hB3; exact ⟨v', w', r1, r2, r3⟩)) ?_; intro v' W4 hR; obtain ⟨AL', cL', rfl⟩ := row_slice hR.1; have h4 := h3.grown hR.2 (fun k e => Nat.le_trans hbs (row_base hrow3 k e)); have f7 := h4.cb.frozen 7; have c7 := h4.cb.cell 7; have g3 := h4.cb.cell 3; simp only [zD, zE, zF] at c7 g3)
     refine hK.out _ _ ?_ (fun hHeld => ?_)
     ·
      exact g3
     clear hK K
     try simp only [Act.put, zA, zB, zC]
     refine wpAnyH_take (i := 14) (oi := ⟨some 154, _, _, _, _, _⟩) (v := ?_) rfl (by kernel_rfl) (by kernel_rfl) (by kernel_rfl) (fun _ _ _ h => HPAN.out _ _ _ _ _ h) (Or.inl ⟨by rfl, ?_⟩) hHeld ?_
     rotate_left
     ·
      intro w hSw
      (try dsimp only at hSw)
      first | (go_simp; done) | (go_simp; with_reducible rfl) | with_reducible rfl
     try simp only [Act.put, zA, zB, zC]
     refine wpAnyH_ready (rs := [15]) (by kernel_rfl) (by simp) ?_
     refine AllReadyH.cons (o := ⟨none, _, _, _, _, _⟩) rfl (fun K hK => ?_) AllReadyH.nil
     go_simp
     refine hK.out _ _ ?_ (fun hHeld => ?_)
     ·
      exact (World.cell?_setCell_other _ _ _ _ (by simp)).trans g3
     clear hK K
     try simp only [Act.put, zA, zB, zC]
     refine wpAnyH_done (by kernel_rfl) ?_ _
     go_wp2_with fail
     go_meet
     have hf := name_next (P := P) h4 hR.1 hP3 HC5.out hR.2 hrow3 hbs hB3
     rw [HX.out] at hf
     exact ⟨a + 1 + 1, _, _, by omega, ⟨ns, HNS.out, Or.inr ⟨h0, kt, hkt, rfl⟩⟩, hf.1, hf.2.1, hf.2.2.1, hf.2.2.2⟩
    go_simp
    refine hK.out _ _ ?_ (fun hHeld => ?_)
    ·
     exact g3
    clear hK K
    try simp only [Act.put, zA, zB, zC]
    refine wpAnyH_take (i := 11) (oi := ⟨some 151, _, _, _, _, _⟩) (v := ?_) rfl (by kernel_rfl) (by kernel_rfl) (by kernel_rfl) (fun _ _ _ h => HPAN.out _ _ _ _ _ h) (Or.inl ⟨by rfl, ?_⟩) hHeld ?_
    rotate_left
    ·
     intro w hSw
     (try dsimp only at hSw)
     first | (go_simp; done) | (go_simp; with_reducible rfl) | with_reducible rfl
    try simp only [Act.put, zA, zB, zC]
    refine wpAnyH_ready (rs := [1, 12]) (by kernel_rfl) (by simp) ?_
    refine AllReadyH.cons (o := ⟨some 141, _, _, _, _, _⟩) rfl (fun K hK => ?_) (AllReadyH.cons (o := ⟨some 152, _, _, _, _, _⟩) rfl (fun K hK => ?_) AllReadyH.nil)
    ·
     go_simp
     refine hK.out _ _ ?_ (fun hHeld => ?_)
     ·
      exact g3
     clear hK K
     try simp only [Act.put, zA, zB, zC]
     refine wpAnyH_ready (rs := [12]) (by kernel_rfl) (by simp) ?_
     refine AllReadyH.cons (o := ⟨some 152, _, _, _, _, _⟩) rfl (fun K hK => ?_) AllReadyH.nil
     go_simp
     (have h3 := h2.alloc (Obj.cells #[.int .u8 111, .int .i64 (IntKind.i64.wrap ((ol : Int) - 1)), .string (txt3 kt)] 69); have hbk := Blk.new W2 69 #[.int .u8 111, .int .i64 (IntKind.i64.wrap ((ol : Int) - 1)), .string (txt3 kt)]; have hrow3 := World.ownsRow.alloc hrow2 (Obj.cells #[.int .u8 111, .int .i64 (IntKind.i64.wrap ((ol : Int) - 1)), .string (txt3 kt)] 69); obtain ⟨hP3, hB3⟩ := alloc_keep hP2 HC5.out hB2 (Obj.cells #[.int .u8 111, .int .i64 (IntKind.i64.wrap ((ol : Int) - 1)), .string (txt3 kt)] 69); generalize W2.alloc (Obj.cells #[.int .u8 111, .int .i64 (IntKind.i64.wrap ((ol : Int) - 1)), .string (txt3 kt)] 69) = W3 at *; have c7 := h3.cb.cell 7; have g3 := h3.cb.cell 3; simp only [zD, zE, zF] at c7 g3)
     refine hK.out _ _ ?_ (fun hHeld => ?_)
     ·
      exact g3
     clear hK K
     try simp only [Act.put, zA, zB, zC]
     refine wpAnyH_ready (rs := [13]) (by kernel_rfl) (by simp) ?_
     refine AllReadyH.cons (o := ⟨some 153, _, _, _, _, _⟩) rfl (fun K hK => ?_) AllReadyH.nil
     (rw [if_pos (by rfl)]; refine oper_app (.tmp 141) (.tmp 152) 27 rfl v (.slice (some ⟨W2.heap.size, 0, none⟩) 1 1) rfl rfl (fun v' w' => w'.ownsRow B 69 3 v' (ns.length + 1) (flatN ns ++ [.int .u8 111, .int .i64 (IntKind.i64.wrap ((ol : Int) - 1)), .string (txt3 kt)]) ∧ W3.grownBy w' v.ownBlock) (fun ty => (by obtain ⟨v', w', r1, r2, r3, _⟩ := app_name W3 B ty v ns.length _ hrow3 W2.heap.size 1 111 _ _ hbk (by rcases HNS.out with h | h <;> simp [h]) hB3; exact ⟨v', w', r1, r2, r3⟩)) ?_; intro v' W4 hR; obtain ⟨AL', cL', rfl⟩ := row_slice hR.1; have h4 := h3.grown hR.2 (fun k e => Nat.le_trans hbs (row_base hrow3 k e)); have f7 := h4.cb.frozen 7; have c7 := h4.cb.cell 7; have g3 := h4.cb.cell 3; simp only [zD, zE, zF] at c7 g3)
     refine hK.out _ _ ?_ (fun hHeld => ?_)
     ·
      exact g3
     clear hK K
     try simp only [Act.put, zA, zB, zC]
     refine wpAnyH_take (i := 14) (oi := ⟨some 154, _, _, _, _, _⟩) (v := ?_) rfl (by kernel_rfl) (by kernel_rfl) (by kernel_rfl) (fun _ _ _ h => HPAN.out _ _ _ _ _ h) (Or.inl ⟨by rfl, ?_⟩) hHeld ?_
     rotate_left
     ·
      intro w hSw
      (try dsimp only at hSw)
      first | (go_simp; done) | (go_simp; with_reducible rfl) | with_reducible rfl
     try simp only [Act.put, zA, zB, zC]
     refine wpAnyH_ready (rs := [15]) (by kernel_rfl) (by simp) ?_
     refine AllReadyH.cons (o := ⟨none, _, _, _, _, _⟩) rfl (fun K hK => ?_) AllReadyH.nil
     go_simp
     refine hK.out _ _ ?_ (fun hHeld => ?_)
     ·
      exact (World.cell?_setCell_other _ _ _ _ (by simp)).trans g3
     clear hK K
     try simp only [Act.put, zA, zB, zC]
     refine wpAnyH_done (by kernel_rfl) ?_ _
     go_wp2_with fail
     go_meet
     have hf := name_next (P := P) h4 hR.1 hP3 HC5.out hR.2 hrow3 hbs hB3
     rw [HX.out] at hf
     exact ⟨a + 1 + 1, _, _, by omega, ⟨ns, HNS.out, Or.inr ⟨h0, kt, hkt, rfl⟩⟩, hf.1, hf.2.1, hf.2.2.1, hf.2.2.2⟩
    go_simp
    (have h3 := h2.alloc (Obj.cells #[.int .u8 111, .int .i64 (IntKind.i64.wrap ((ol : Int) - 1)), .string (txt3 kt)] 69); have hbk := Blk.new W2 69 #[.int .u8 111, .int .i64 (IntKind.i64.wrap ((ol : Int) - 1)), .string (txt3 kt)]; have hrow3 := World.ownsRow.alloc hrow2 (Obj.cells #[.int .u8 111, .int .i64 (IntKind.i64.wrap ((ol : Int) - 1)), .string (txt3 kt)] 69); obtain ⟨hP3, hB3⟩ := alloc_keep hP2 HC5.out hB2 (Obj.cells #[.int .u8 111, .int .i64 (IntKind.i64.wrap ((ol : Int) - 1)), .string (txt3 kt)] 69); generalize W2.alloc (Obj.cells #[.int .u8 111, .int .i64 (IntKind.i64.wrap ((ol : Int) - 1)), .string (txt3 kt)] 69) = W3 at *; have c7 := h3.cb.cell 7; have g3 := h3.cb.cell 3; simp only [zD, zE, zF] at c7 g3)
    refine hK.out _ _ ?_ (fun hHeld => ?_)
    ·
     exact g3
    clear hK K
    try simp only [Act.put, zA, zB, zC]
    refine wpAnyH_ready (rs := [1]) (by kernel_rfl) (by simp) ?_
    refine AllReadyH.cons (o := ⟨some 141, _, _, _, _, _⟩) rfl (fun K hK => ?_) AllReadyH.nil
    go_simp
    refine hK.out _ _ ?_ (fun hHeld => ?_)
    ·
     exact g3
    clear hK K
    try simp only [Act.put, zA, zB, zC]
    refine wpAnyH_ready (rs := [13]) (by kernel_rfl) (by simp) ?_
    refine AllReadyH.cons (o := ⟨some 153, _, _, _, _, _⟩) rfl (fun K hK => ?_) AllReadyH.nil
    (rw [if_pos (by rfl)]; refine oper_app (.tmp 141) (.tmp 152) 27 rfl v (.slice (some ⟨W2.heap.size, 0, none⟩) 1 1) rfl rfl (fun v' w' => w'.ownsRow B 69 3 v' (ns.length + 1) (flatN ns ++ [.int .u8 111, .int .i64 (IntKind.i64.wrap ((ol : Int) - 1)), .string (txt3 kt)]) ∧ W3.grownBy w' v.ownBlock) (fun ty => (by obtain ⟨v', w', r1, r2, r3, _⟩ := app_name W3 B ty v ns.length _ hrow3 W2.heap.size 1 111 _ _ hbk (by rcases HNS.out with h | h <;> simp [h]) hB3; exact ⟨v', w', r1, r2, r3⟩)) ?_; intro v' W4 hR; obtain ⟨AL', cL', rfl⟩ := row_slice hR.1; have h4 := h3.grown hR.2 (fun k e => Nat.le_trans hbs (row_base hrow3 k e)); have f7 := h4.cb.frozen 7; have c7 := h4.cb.cell 7; have g3 := h4.cb.cell 3; simp only [zD, zE, zF] at c7 g3)
    refine hK.out _ _ ?_ (fun hHeld => ?_)
    ·
     exact g3
    clear hK K
    try simp only [Act.put, zA, zB, zC]
    refine wpAnyH_take (i := 14) (oi := ⟨some 154, _, _, _, _, _⟩) (v := ?_) rfl (by kernel_rfl) (by kernel_rfl) (by kernel_rfl) (fun _ _ _ h => HPAN.out _ _ _ _ _ h) (Or.inl ⟨by rfl, ?_⟩) hHeld ?_
    rotate_left
    ·
     intro w hSw
     (try dsimp only at hSw)
     first | (go_simp; done) | (go_simp; with_reducible rfl) | with_reducible rfl
    try simp only [Act.put, zA, zB, zC]
    refine wpAnyH_ready (rs := [15]) (by kernel_rfl) (by simp) ?_
    refine AllReadyH.cons (o := ⟨none, _, _, _, _, _⟩) rfl (fun K hK => ?_) AllReadyH.nil
    go_simp
    refine hK.out _ _ ?_ (fun hHeld => ?_)
    ·
     exact (World.cell?_setCell_other _ _ _ _ (by simp)).trans g3
    clear hK K
    try simp only [Act.put, zA, zB, zC]
    refine wpAnyH_done (by kernel_rfl) ?_ _
    go_wp2_with fail
    go_meet
    have hf := name_next (P := P) h4 hR.1 hP3 HC5.out hR.2 hrow3 hbs hB3
    rw [HX.out] at hf
    exact ⟨a + 1 + 1, _, _, by omega, ⟨ns, HNS.out, Or.inr ⟨h0, kt, hkt, rfl⟩⟩, hf.1, hf.2.1, hf.2.2.1, hf.2.2.2⟩
   have hkd : decide (0 < kp) = false := decide_eq_false hk
   go_wp2_with fail
   go_meet
   exact ⟨a + 1, ns, v, by omega, ⟨ns, HNS.out, Or.inl rfl⟩, hrow7, hPn, hBn, h7⟩
  clear hrow7 hPn hBn h7
  obtain ⟨a, ns, v, ha, hok, hrow, hP, hB, h6⟩ := hcut
  obtain ⟨AN, cN, rfl⟩ := row_slice hrow
  have c0 := h6.cb.cell 0; have c1 := h6.cb.cell 1; have c2 := h6.cb.cell 2; have c3 := h6.cb.cell 3; have c4 := h6.cb.cell 4; have c5 := h6.cb.cell 5; have c6 := h6.cb.cell 6; have c7 := h6.cb.cell 7; simp only [zD, zE, zF] at c0 c1 c2 c3 c4 c5 c6 c7
  have f0 := h6.rb.frozen 0; have f1 := h6.rb.frozen 1; have f2 := h6.rb.frozen 2; have f3 := h6.rb.frozen 3; have f4 := h6.rb.frozen 4; have f5 := h6.rb.frozen 5; have f6 := h6.rb.frozen 6; have f7 := h6.rb.frozen 7; have r0 := h6.rb.cell 0; have r1 := h6.rb.cell 1; have r2 := h6.rb.cell 2; have r3 := h6.rb.cell 3; have r4 := h6.rb.cell 4; have r5 := h6.rb.cell 5; have r6 := h6.rb.cell 6; have r7 := h6.rb.cell 7; simp only [zD, zE, zF] at r0 r1 r2 r3 r4 r5 r6 r7
  go_wp2_with fail
  refine HEND.out _ _ ?_
  unfold End33
  exact ⟨_, _, _, _, _, _, _, _, _, _, _, _, _, _, _, _, _, _, _, _, _, _, _, _, _, _, _, _, _, _, _, _, _, _, _, _, _, _, _, _, _, _, _, _, _, _, _, _, _, _, _, _, _, _, _, _, _, _, _, _, _, _, _, _, _, _, _, _, _, _, _, _, _, _, _, _, _, _, _, _, _, _, _, _, _, _, _, _, _, _, _, _, _, _, _, _, _, _, _, _, _, _, _, _, _, _, _, _, _, _, _, _, _, _, _, _, _, _, _, _, _, _, _, _, _, _, _, _, _, _, _, _, _, _, _, _, _, _, _, _, _, _, _, _, _, _, _, _, _, _, _, _, _, ⟨_, _, _, _, hok, hrow, hP, hB, h6, rfl⟩, rfl⟩
 have hd0 : decide ((0 : Int) < (ol : Int)) = false := decide_eq_false (by omega)
 have c3 := h6.cb.cell 3
 simp only [zD, zE, zF] at c3
 go_upto_region 37 with fail
 obtain ⟨AN, cN, rfl⟩ := row_slice hrow
 clear c3 hd0 h0
 have c0 := h6.cb.cell 0; have c1 := h6.cb.cell 1; have c2 := h6.cb.cell 2; have c3 := h6.cb.cell 3; have c4 := h6.cb.cell 4; have c5 := h6.cb.cell 5; have c6 := h6.cb.cell 6; have c7 := h6.cb.cell 7; simp only [zD, zE, zF] at c0 c1 c2 c3 c4 c5 c6 c7
 have f0 := h6.rb.frozen 0; have f1 := h6.rb.frozen 1; have f2 := h6.rb.frozen 2; have f3 := h6.rb.frozen 3; have f4 := h6.rb.frozen 4; have f5 := h6.rb.frozen 5; have f6 := h6.rb.frozen 6; have f7 := h6.rb.frozen 7; have r0 := h6.rb.cell 0; have r1 := h6.rb.cell 1; have r2 := h6.rb.cell 2; have r3 := h6.rb.cell 3; have r4 := h6.rb.cell 4; have r5 := h6.rb.cell 5; have r6 := h6.rb.cell 6; have r7 := h6.rb.cell 7; simp only [zD, zE, zF] at r0 r1 r2 r3 r4 r5 r6 r7
 go_wp2_with fail
 refine HEND.out _ _ ?_
 unfold End33
 exact ⟨_, _, _, _, _, _, _, _, _, _, _, _, _, _, _, _, _, _, _, _, _, _, _, _, _, _, _, _, _, _, _, _, _, _, _, _, _, _, _, _, _, _, _, _, _, _, _, _, _, _, _, _, _, _, _, _, _, _, _, _, _, _, _, _, _, _, _, _, _, _, _, _, _, _, _, _, _, _, _, _, _, _, _, _, _, _, _, _, _, _, _, _, _, _, _, _, _, _, _, _, _, _, _, _, _, _, _, _, _, _, _, _, _, _, _, _, _, _, _, _, _, _, _, _, _, _, _, _, _, _, _, _, _, _, _, _, _, _, _, _, _, _, _, _, _, _, _, _, _, _, _, _, _, ⟨_, _, _, _, ⟨ns, HNS.out, Or.inl rfl⟩, hrow, hP, hB, h6, rfl⟩, rfl⟩
end Go.Proofs.YtpejilhdhkmcjaaGreatDoor
