/- EvalGates, walked. -/
import Derived.Test.YtjaajocpmjgocaaDoorEQ
namespace Go.Proofs.YtjaajocpmjgocaaDoor
open Go.RowKit

theorem right_wf {n : Int} {gs : List (Int × Int)} (h : Gm.rightB n gs = true) : Wf gs := by
  intro g hg
  obtain ⟨k, hk, rfl⟩ := List.getElem_of_mem hg
  have h1 := Em.gate_low (Em.right_ord h) hk
  have h2 := right_facts h
  omega

set_option maxRecDepth 100000 in
set_option maxHeartbeats 32000000 in
theorem evalGates_walk (a0 : Int) (A0 : Option Addr) (c0 : Nat) (zs : List Int) (a2 a3 a4 a5 : Int) (w : World) (h0 : 0 ≤ a0) (h0' : a0 ≤ 255) (hm : zs.length ≤ maxLen) (hU : Us w w.heap.size A0 zs) (h2 : 0 ≤ a2) (h2' : a2 ≤ 255) (h3 : 0 ≤ a3) (h3' : a3 ≤ 255) (h4 : 0 ≤ a4) (h4' : a4 ≤ 255) (h5 : 0 ≤ a5) (h5' : a5 ≤ 255) (hT : Tabs w) :
    Calls Tryd.prog 3 #[.int .u8 a0, .slice A0 zs.length c0, .int .u8 a2, .int .u8 a3, .int .u8 a4, .int .u8 a5] w fun e w' => e = .returned (.bool true) ∧ Below w.heap.size w w' := by
  have HAW := Lib.hid (awake2_any w hT)
  have hnot : ∀ (x : Bool) (w : World), (Op.unary .not (.bool x)).run Tryd.prog w = .ok (.bool (!x)) w := fun _ _ => rfl
  have HMD := Lib.hid (fun V hV => made_any (a0 % 7) A0 c0 zs V (by omega) (by omega) hm hV)
  clear hm
  go_enter Tryd.func3, Tryd.ntmps3
  go_wp2_with fail
  refine HAW.out.mono ?_
  rintro e w0 ⟨rfl, lo⟩
  go_wp2_with fail
  have hn0 : 0 ≤ a0 % 7 := by omega
  have hn6 : a0 % 7 ≤ 6 := by omega
  generalize a0 % 7 = n at *
  obtain ⟨m, rfl⟩ := Int.eq_ofNat_of_zero_le hn0
  refine (HMD.out w0 ((hU.below lo (Nat.le_refl _)).more lo.size)).mono ?_
  rintro e w1 ⟨A, c, gs, last, rfl, hG, hgood, hb1⟩
  have g0 := GX.new (n := (m : Int)) (c := c) (l := gs.length) hG 26
  replace lo := (lo.trans (hb1.mono lo.size)).alloc (Nat.le_trans lo.size hb1.size) (Obj.cells #[.int .i64 m, .slice A gs.length c] 26)
  obtain ⟨hr, hfew, hwf, hlit⟩ := hgood
  clear HMD hG hb1 HAW
  go_upto_region 5 with fail
  generalize w1.alloc (Obj.cells #[.int .i64 m, .slice A gs.length c] 26) = V at *
  have k0 := g0.c0
  have k1 := g0.c1
  have hgl : gs.length ≤ 40 := hfew
  go_wp2_with fail
  refine (refVars_any m A gs.length c V (by omega) (by omega) (by omega)).mono ?_
  rintro e w2 ⟨rfl, hb2⟩
  replace g0 := g0.below hb2
  replace lo := lo.trans (hb2.mono lo.size)
  clear k0 k1 hb2
  go_upto_region 6 with fail
  have HM : Hid (2 * ((m : Int) + 1 + (gs.length : Int)) = 2 * (1 + (m : Int) + (gs.length : Int))) := by show _ = _; omega
  have hM0 : 0 < 2 * ((m : Int) + 1 + (gs.length : Int)) := by omega
  have hM9 : 2 * ((m : Int) + 1 + (gs.length : Int)) ≤ 94 := by omega
  generalize 2 * ((m : Int) + 1 + (gs.length : Int)) = M at *
  have hM2 : ¬ M = 0 := by omega
  have x0 := Int.emod_nonneg a3 hM2
  have x1 := Int.emod_lt_of_pos a3 hM0
  have y0 := Int.emod_nonneg a4 hM2
  have y1 := Int.emod_lt_of_pos a4 hM0
  have z0 := Int.emod_nonneg a5 hM2
  have z1 := Int.emod_lt_of_pos a5 hM0
  go_quiet (fail)
  go_upto_region 7 with fail
  generalize a3 % M = x at *
  generalize a4 % M = y at *
  generalize a5 % M = z at *
  have lx : Gm.litB m gs.length x = true := lit_mk hn0 (by omega) x0 (by have := HM.out; omega)
  have ly : Gm.litB m gs.length y = true := lit_mk hn0 (by omega) y0 (by have := HM.out; omega)
  have lz : Gm.litB m gs.length z = true := lit_mk hn0 (by omega) z0 (by have := HM.out; omega)
  have ag := and_good hr lx ly (by omega)
  have og := (or_good hr lx ly (by omega)).1
  have ig := ite_good hr lz lx ly (by omega)
  have g1 : GX w1.heap.size m A c gs.length gs (w2.drewN nq) := ⟨g0.c0, g0.c1, g0.lt, g0.gr⟩
  replace lo : Below w.heap.size w (w2.drewN nq) := below_drewN lo nq
  clear g0
  generalize w2.drewN nq = W2 at *
  have k0 := g1.c0
  have k1 := g1.c1
  go_wp2_with fail
  refine (bits_any a2 m W2 h2 (by omega) (by omega)).mono ?_
  rintro e w3 ⟨Ai, ci, rfl, hVi, hb3⟩
  replace g1 := g1.below hb3
  replace lo := lo.trans (hb3.mono lo.size)
  clear k0 k1 hb3
  have hil := bitsB_length a2 m
  generalize bitsB a2 m = ins at *
  have HIL := Lib.hid hil
  have HIN := Lib.hid (show (ins.length : Int) = m by omega)
  clear hil
  have va := Em.and_val HIN.out hr lx ly (by omega)
  have vo := Em.or_val HIN.out hr lx ly (by omega)
  have vi := Em.ite_val HIN.out hr lz lx ly (by omega)
  have C0 := Lib.hid (fun l (hl : Gm.litB m gs.length l = true) V h q => (Em.evalB_in hr hl HIN.out) ▸ eval_any m A c gs l Ai ci ins V (by omega) (by rw [HIL.out]; omega) h hwf q)
  have CP := Lib.hid (C0.out x lx)
  have CQ := Lib.hid (C0.out y ly)
  have CR := Lib.hid (C0.out z lz)
  have CA := Lib.hid (fun V (h : Gr V V.heap.size A gs) => and_any m A c gs x y V V.heap.size (by omega) h (Nat.le_refl _) hwf)
  have CO := Lib.hid (fun V (h : Gr V V.heap.size A gs) => or_any m A c gs x y V V.heap.size (by omega) h (Nat.le_refl _) hwf (by omega) (by omega))
  have CI := Lib.hid (fun V (h : Gr V V.heap.size A gs) => ite_any m A c gs z x y V V.heap.size (by omega) h (Nat.le_refl _) hwf (by omega))
  clear C0
  generalize Gm.andS m gs x y = r1 at *
  obtain ⟨⟨n1, gs1⟩, l1, er1⟩ := r1
  obtain ⟨he, hi, hr1, hl1, hgl1, hp1⟩ := ag
  simp only at he hi hr1 hl1 hgl1 hp1 va
  subst he hi
  generalize Gm.orS m gs x y = r2 at *
  obtain ⟨⟨n2, gs2⟩, l2, er2⟩ := r2
  obtain ⟨he, hi, hr2, hl2, hgl2, hp2⟩ := og
  simp only at he hi hr2 hl2 hgl2 hp2 vo
  subst he hi
  generalize Gm.iteS m gs z x y = r3 at *
  obtain ⟨⟨n3, gs3⟩, l3, er3⟩ := r3
  obtain ⟨he, hi, hr3, hl3, hgl3, hp3⟩ := ig
  simp only at he hi hr3 hl3 hgl3 hp3 vi
  subst he hi
  have vx := Em.pre_bit HIN.out hp3 lx
  have E1 := Lib.hid (fun A' c' V h q => (va ▸ Em.evalB_in hr1 hl1 HIN.out) ▸ eval_any m A' c' gs1 l1 Ai ci ins V (by omega) (by rw [HIL.out]; omega) h (right_wf hr1) q)
  have E2 := Lib.hid (fun A' c' V h q => (vo ▸ Em.evalB_in hr2 hl2 HIN.out) ▸ eval_any m A' c' gs2 l2 Ai ci ins V (by omega) (by rw [HIL.out]; omega) h (right_wf hr2) q)
  have E3 := Lib.hid (fun A' c' V h q => (vi ▸ Em.evalB_in hr3 hl3 HIN.out) ▸ eval_any m A' c' gs3 l3 Ai ci ins V (by omega) (by rw [HIL.out]; omega) h (right_wf hr3) q)
  have E4 := Lib.hid (fun A' c' V h q => (vx ▸ Em.evalB_in hr3 (lit_more lx (pre_len hp3)) HIN.out) ▸ eval_any m A' c' gs3 x Ai ci ins V (by omega) (by rw [HIL.out]; omega) h (right_wf hr3) q)
  generalize Em.bitB (Em.all ins gs) x = p at *
  generalize Em.bitB (Em.all ins gs) y = q at *
  generalize Em.bitB (Em.all ins gs) z = r at *
  clear va vo vi vx hp1 hp2 hp3 HM
  go_upto_region 8 with fail
  have lw := (Below.refl w3.heap.size w3).drew
  go_region_held3 (fun W => W.cell? ⟨w1.heap.size, 0, none⟩ = some (.int .i64 m) ∧ W.cell? ⟨w1.heap.size, 1, none⟩ = some (.slice A gs.length c))
    (exact ⟨(g1.below lw).c0, (g1.below lw).c1⟩)
    (first | (go_at_call 9; (with_reducible refine (CP.out _ (g1.below lw).gr ((hVi.below lw (Nat.le_refl _)).more lw.size)).mono ?_); rintro e wn ⟨rfl, hbn⟩; replace lw := lw.trans (hbn.mono lw.size))
           | (go_at_call 9; (with_reducible refine (CQ.out _ (g1.below lw).gr ((hVi.below lw (Nat.le_refl _)).more lw.size)).mono ?_); rintro e wn ⟨rfl, hbn⟩; replace lw := lw.trans (hbn.mono lw.size))
           | (go_at_call 9; (with_reducible refine (CR.out _ (g1.below lw).gr ((hVi.below lw (Nat.le_refl _)).more lw.size)).mono ?_); rintro e wn ⟨rfl, hbn⟩; replace lw := lw.trans (hbn.mono lw.size)))
  go_upto_region 9 with fail
  generalize hWW : wn = W9 at *
  have k0 := (g1.below lw).c0
  have k1 := (g1.below lw).c1
  go_wp2_with fail
  refine (CA.out _ (g1.below lw).gr).mono ?_
  rintro e w4 ⟨A1, c1, rfl, hG1, _, hb4⟩
  replace lw := (lw.trans (hb4.mono lw.size)).alloc (Nat.le_trans lw.size hb4.size) (Obj.cells #[.int .i64 m, .slice A1 gs1.length c1] 26)
  have gH := GX.new (n := (m : Int)) (c := c1) (l := gs1.length) hG1 26
  clear k0 k1 hG1 hb4
  go_upto_region 10 with fail
  generalize w4.alloc (Obj.cells #[.int .i64 m, .slice A1 gs1.length c1] 26) = V4 at *
  have k0 := (g1.below lw).c0
  have k1 := (g1.below lw).c1
  go_wp2_with fail
  refine (CO.out _ (g1.below lw).gr).mono ?_
  rintro e w5 ⟨A2, c2, rfl, hG2, _, hb5⟩
  replace lw := (lw.trans (hb5.mono lw.size)).alloc (Nat.le_trans lw.size hb5.size) (Obj.cells #[.int .i64 m, .slice A2 gs2.length c2] 26)
  replace gH := (gH.below hb5).alloc (Obj.cells #[.int .i64 m, .slice A2 gs2.length c2] 26)
  have gJ := GX.new (n := (m : Int)) (c := c2) (l := gs2.length) hG2 26
  clear k0 k1 hG2 hb5
  go_upto_region 11 with fail
  generalize w5.alloc (Obj.cells #[.int .i64 m, .slice A2 gs2.length c2] 26) = V5 at *
  have k0 := (g1.below lw).c0
  have k1 := (g1.below lw).c1
  go_wp2_with fail
  refine (CI.out _ (g1.below lw).gr).mono ?_
  rintro e w6 ⟨A3, c3, rfl, hG3, _, hb6⟩
  replace lw := (lw.trans (hb6.mono lw.size)).alloc (Nat.le_trans lw.size hb6.size) (Obj.cells #[.int .i64 m, .slice A3 gs3.length c3] 26)
  replace gH := (gH.below hb6).alloc (Obj.cells #[.int .i64 m, .slice A3 gs3.length c3] 26)
  replace gJ := (gJ.below hb6).alloc (Obj.cells #[.int .i64 m, .slice A3 gs3.length c3] 26)
  have gM := GX.new (n := (m : Int)) (c := c3) (l := gs3.length) hG3 26
  clear k0 k1 hG3 hb6
  go_upto_region 12 with fail
  generalize w6.alloc (Obj.cells #[.int .i64 m, .slice A3 gs3.length c3] 26) = V6 at *
  clear CP CQ CR CA CO CI
  cases p <;> cases q <;> cases r <;>
  · have kH0 := gH.c0
    have kH1 := gH.c1
    go_wp2_with fail
    refine (E1.out A1 c1 _ gH.gr ((hVi.below lw (Nat.le_refl _)).more lw.size)).mono ?_
    rintro e w7 ⟨rfl, hb7⟩
    replace lw := lw.trans (hb7.mono lw.size)
    replace gJ := gJ.below hb7
    replace gM := gM.below hb7
    clear kH0 kH1 hb7
    have kJ0 := gJ.c0
    have kJ1 := gJ.c1
    go_wp2_with fail
    refine (E2.out A2 c2 _ gJ.gr ((hVi.below lw (Nat.le_refl _)).more lw.size)).mono ?_
    rintro e w8 ⟨rfl, hb8⟩
    replace lw := lw.trans (hb8.mono lw.size)
    replace gM := gM.below hb8
    clear kJ0 kJ1 hb8
    have kM0 := gM.c0
    have kM1 := gM.c1
    go_wp2_with fail
    refine (E3.out A3 c3 _ gM.gr ((hVi.below lw (Nat.le_refl _)).more lw.size)).mono ?_
    rintro e w9 ⟨rfl, hb9⟩
    replace lw := lw.trans (hb9.mono lw.size)
    replace gM := gM.below hb9
    clear kM0 kM1 hb9
    have kM0 := gM.c0
    have kM1 := gM.c1
    go_wp2_with fail
    refine (E4.out A3 c3 _ gM.gr ((hVi.below lw (Nat.le_refl _)).more lw.size)).mono ?_
    rintro e w10 ⟨rfl, hb10⟩
    replace lw := lw.trans (hb10.mono lw.size)
    go_wp2_with fail
    go_ret
    exact ⟨rfl, lo.trans (lw.mono lo.size)⟩
end Go.Proofs.YtjaajocpmjgocaaDoor
