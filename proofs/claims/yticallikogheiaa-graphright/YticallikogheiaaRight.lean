/- 'parterrelaw01.GraphRight' returns true at every input, and each argument reads afterwards as it read before. No condition. -/
import Derived.Test.YticallikogheiaaBD
namespace Go.Proofs.Yticallikogheiaa
open Go.ChangeShapes Go.WideShapes Go.ChangeAt Go.RowKit Go.Deep Go.Joins Go.WideElems

set_option maxRecDepth 100000 in
set_option maxHeartbeats 8000000 in
theorem right_walk (a0 : Int) (A0 : Option Addr) (c0 : Nat) (zs : List Int) (a2 a3 a4 : Int) (w : World) (h0 : 0 ≤ a0) (h0' : a0 ≤ 255) (hm : zs.length ≤ maxLen) (hU : Us w w.heap.size A0 zs) (h2 : 0 ≤ a2) (h2' : a2 ≤ 255) (h3 : 0 ≤ a3) (h3' : a3 ≤ 255) (h4 : 0 ≤ a4) (h4' : a4 ≤ 255) :
    Calls Try.prog 7 #[.int .u8 a0, .slice A0 zs.length c0, .int .u8 a2, .int .u8 a3, .int .u8 a4] w fun e w' => e = .returned (.bool true) ∧ Below w.heap.size w w' := by
  have hnot : ∀ (x : Bool) (w : World), (Op.unary .not (.bool x)).run Try.prog w = .ok (.bool (!x)) w := fun _ _ => rfl
  have HMD := Lib.hid (fun V (h : Us V V.heap.size A0 zs) => made_any (a0 % 7) A0 c0 zs V (by omega) (by omega) hm h)
  clear hm
  go_enter Try.func7, Try.ntmps7
  go_wp2_with fail
  refine (awake_any w).mono ?_
  rintro e w0 ⟨rfl, lo⟩
  have hU0 : Us w0 w0.heap.size A0 zs := fun k hk => by
    obtain ⟨b, off, e, hb, r⟩ := (hU.below lo (Nat.le_refl _)) k hk
    exact ⟨b, off, e, Nat.lt_of_lt_of_le hb lo.size, r⟩
  go_wp2_with fail
  have hn0 : 0 ≤ a0 % 7 := by omega
  have hn6 : a0 % 7 ≤ 6 := by omega
  generalize a0 % 7 = n at *
  refine (HMD.out w0 hU0).mono ?_
  rintro e w1 ⟨A, c, gs, last, rfl, hG, hgood, hb1⟩
  have g0 := GX.new (n := n) (c := c) (l := gs.length) hG 24
  replace lo := (lo.trans (hb1.mono lo.size)).alloc (Nat.le_trans lo.size hb1.size) (Obj.cells #[.int .i64 n, .slice A gs.length c] 24)
  obtain ⟨hr, hfew, hwf, hlit⟩ := hgood
  clear HMD hG hb1 hU0
  go_upto_region 5 with fail
  generalize w1.alloc (Obj.cells #[.int .i64 n, .slice A gs.length c] 24) = V at *
  have k0 := g0.c0
  have k1 := g0.c1
  go_wp2_with fail
  refine (refVars_any n A gs.length c V hn0 (by omega) (by omega)).mono ?_
  rintro e w2 ⟨rfl, hb2⟩
  replace g0 := g0.below hb2
  replace lo := lo.trans (hb2.mono lo.size)
  clear k0 k1 hb2
  go_upto_region 6 with fail
  have HM : Hid (2 * (n + 1 + (gs.length : Int)) = 2 * (1 + n + (gs.length : Int))) := by show _ = _; omega
  have hM0 : 0 < 2 * (n + 1 + (gs.length : Int)) := by omega
  have hM9 : 2 * (n + 1 + (gs.length : Int)) ≤ 94 := by omega
  generalize 2 * (n + 1 + (gs.length : Int)) = M at *
  have hM2 : ¬ M = 0 := by omega
  have x0 := Int.emod_nonneg a2 hM2
  have x1 := Int.emod_lt_of_pos a2 hM0
  have y0 := Int.emod_nonneg a3 hM2
  have y1 := Int.emod_lt_of_pos a3 hM0
  have z0 := Int.emod_nonneg a4 hM2
  have z1 := Int.emod_lt_of_pos a4 hM0
  go_quiet (fail)
  go_upto_region 7 with fail
  generalize a2 % M = x at *
  generalize a3 % M = y at *
  generalize a4 % M = z at *
  have lx : Gm.litB n gs.length x = true := lit_mk hn0 (by omega) x0 (by have := HM.out; omega)
  have ly : Gm.litB n gs.length y = true := lit_mk hn0 (by omega) y0 (by have := HM.out; omega)
  have lz : Gm.litB n gs.length z = true := lit_mk hn0 (by omega) z0 (by have := HM.out; omega)
  have ag := and_good hr lx ly (by omega)
  have ig := ite_good hr lz lx ly (by omega)
  have iw := (ite_len n gs z x y hwf).2
  have aw := (and_facts n gs x y hwf).wf
  have aa := and_again hr lx ly (by omega)
  have ia := ite_again hr lz lx ly (by omega)
  have g0' : GX w1.heap.size n A c gs.length gs (w2.drewN nq) := ⟨g0.c0, g0.c1, g0.lt, g0.gr⟩
  have lo' : Below w.heap.size w (w2.drewN nq) := below_drewN lo nq
  clear g0 lo
  generalize w2.drewN nq = W2 at *
  have C1 := Lib.hid (and_any n A c gs x y W2 W2.heap.size (by omega) g0'.gr (Nat.le_refl _) hwf)
  have C3 := Lib.hid (fun V (h : Gr V V.heap.size A gs) => ite_any n A c gs z x y V V.heap.size (by omega) h (Nat.le_refl _) hwf (by omega))
  generalize Gm.andS n gs x y = r1 at *
  obtain ⟨⟨n1, gs1⟩, l1, er1⟩ := r1
  obtain ⟨he, hi, hr1, hl1, hgl1, hp1⟩ := ag
  simp only at he hi hr1 hl1 hgl1 hp1 aw aa
  subst he hi
  generalize Gm.iteS n1 gs z x y = r2 at *
  obtain ⟨⟨n2, gs2⟩, l2, er2⟩ := r2
  obtain ⟨he, hi, hr2, hl2, hgl2, hp2⟩ := ig
  simp only at he hi hr2 hl2 hgl2 hp2 iw ia
  subst he hi
  have hle1 := pre_len hp1
  have hle2 := pre_len hp2
  have k0 := g0'.c0
  have k1 := g0'.c1
  go_wp2_with fail
  refine (C1.out).mono ?_
  rintro e w3 ⟨A1, c1, rfl, hG1, _, hb1⟩
  replace lo' := (lo'.trans (hb1.mono lo'.size)).alloc (Nat.le_trans lo'.size hb1.size) (Obj.cells #[.int .i64 n2, .slice A1 gs1.length c1] 24)
  replace g0' := (g0'.below hb1).alloc (Obj.cells #[.int .i64 n2, .slice A1 gs1.length c1] 24)
  have g1 := GX.new (n := n2) (c := c1) (l := gs1.length) hG1 24
  clear k0 k1 hG1 hb1
  go_upto_region 8 with fail
  generalize w3.alloc (Obj.cells #[.int .i64 n2, .slice A1 gs1.length c1] 24) = V3 at *
  have C2 := Lib.hid (and_any n2 A1 c1 gs1 y x V3 V3.heap.size (by omega) g1.gr (Nat.le_refl _) aw)
  rw [aa] at C2
  have k0 := g1.c0
  have k1 := g1.c1
  go_wp2_with fail
  refine (C2.out).mono ?_
  rintro e w4 ⟨A2, c2, rfl, hG1, _, hb1⟩
  replace lo' := (lo'.trans (hb1.mono lo'.size)).alloc (Nat.le_trans lo'.size hb1.size) (Obj.cells #[.int .i64 n2, .slice A2 gs1.length c2] 24)
  replace g0' := (g0'.below hb1).alloc (Obj.cells #[.int .i64 n2, .slice A2 gs1.length c2] 24)
  replace g1 := (g1.below hb1).alloc (Obj.cells #[.int .i64 n2, .slice A2 gs1.length c2] 24)
  have g2 := GX.new (n := n2) (c := c2) (l := gs1.length) hG1 24
  clear k0 k1 hG1 hb1
  go_upto_region 9 with fail
  generalize w4.alloc (Obj.cells #[.int .i64 n2, .slice A2 gs1.length c2] 24) = V4 at *
  have k0 := g0'.c0
  have k1 := g0'.c1
  go_wp2_with fail
  refine (C3.out V4 g0'.gr).mono ?_
  rintro e w5 ⟨A3, c3, rfl, hG1, _, hb1⟩
  replace lo' := (lo'.trans (hb1.mono lo'.size)).alloc (Nat.le_trans lo'.size hb1.size) (Obj.cells #[.int .i64 n2, .slice A3 gs2.length c3] 24)
  replace g0' := (g0'.below hb1).alloc (Obj.cells #[.int .i64 n2, .slice A3 gs2.length c3] 24)
  replace g1 := (g1.below hb1).alloc (Obj.cells #[.int .i64 n2, .slice A3 gs2.length c3] 24)
  replace g2 := (g2.below hb1).alloc (Obj.cells #[.int .i64 n2, .slice A3 gs2.length c3] 24)
  have g3 := GX.new (n := n2) (c := c3) (l := gs2.length) hG1 24
  clear k0 k1 hG1 hb1
  go_upto_region 10 with fail
  generalize w5.alloc (Obj.cells #[.int .i64 n2, .slice A3 gs2.length c3] 24) = V5 at *
  have C4 := Lib.hid (ite_any n2 A3 c3 gs2 z x y V5 V5.heap.size (by omega) g3.gr (Nat.le_refl _) iw (by omega))
  rw [ia] at C4
  have k0 := g3.c0
  have k1 := g3.c1
  go_wp2_with fail
  refine (C4.out).mono ?_
  rintro e w6 ⟨A4, c4, rfl, hG1, _, hb1⟩
  replace lo' := (lo'.trans (hb1.mono lo'.size)).alloc (Nat.le_trans lo'.size hb1.size) (Obj.cells #[.int .i64 n2, .slice A4 gs2.length c4] 24)
  replace g0' := (g0'.below hb1).alloc (Obj.cells #[.int .i64 n2, .slice A4 gs2.length c4] 24)
  replace g1 := (g1.below hb1).alloc (Obj.cells #[.int .i64 n2, .slice A4 gs2.length c4] 24)
  replace g2 := (g2.below hb1).alloc (Obj.cells #[.int .i64 n2, .slice A4 gs2.length c4] 24)
  replace g3 := (g3.below hb1).alloc (Obj.cells #[.int .i64 n2, .slice A4 gs2.length c4] 24)
  have g4 := GX.new (n := n2) (c := c4) (l := gs2.length) hG1 24
  clear k0 k1 hG1 hb1
  go_upto_region 11 with fail
  generalize w6.alloc (Obj.cells #[.int .i64 n2, .slice A4 gs2.length c4] 24) = V6 at *
  have HA := Lib.hid aa
  have HI := Lib.hid ia
  clear aa ia
  have b1 : decide ((gs.length : Int) ≤ (gs1.length : Int)) = true := by simp; omega
  have b2 : decide ((gs1.length : Int) ≤ (gs.length : Int) + 1) = true := by simp; omega
  have b3 : decide ((gs.length : Int) ≤ (gs2.length : Int)) = true := by simp; omega
  have b4 : decide ((gs2.length : Int) ≤ (gs.length : Int) + 3) = true := by simp; omega
  have k0 := g0'.c1
  have k1 := g1.c1
  have k3 := g3.c1
  go_wp2_with fail
  clear b1 b2 b3 b4 k0 k1 k3 C1 C2 C3 C4
  go_loopw [30, 31] (fun bb i wr => ∃ k : Nat, k ≤ gs.length ∧ bb = .bool true ∧ i = .int .i64 (k : Int) ∧ ∃ q, wr = V6.drewN q) (fun _ i _ => gs.length - (intOf i).toNat)
  case atStart => exact ⟨0, Nat.zero_le _, rfl, rfl, 0, rfl⟩
  case round =>
    obtain ⟨k, hk, rfl, rfl, q, rfl⟩ := hrel
    have k0 := g0'.c1
    have k1 := g1.c1
    have k3 := g3.c1
    by_cases hlt : k < gs.length
    · obtain ⟨ba, oa, hA, _, p1, p2⟩ := g0'.gr k hlt
      obtain ⟨bb, ob, hA1, _, p3, p4⟩ := g1.gr k (by omega)
      obtain ⟨bc, oc, hA3, _, p5, p6⟩ := g3.gr k (by omega)
      subst hA hA1 hA3
      have e1 : gs1[k]'(by omega) = gs[k] := by
        obtain ⟨t, h⟩ := hp1
        simp only [h]
        exact List.getElem_append_left hlt
      have e2 : gs2[k]'(by omega) = gs[k] := by
        obtain ⟨t, h⟩ := hp2
        simp only [h]
        exact List.getElem_append_left hlt
      rw [e1] at p3 p4
      rw [e2] at p5 p6
      have i1 := ix2 ba oa gs.length c k (by omega) hlt
      have i2 := ix2 bb ob gs1.length c1 k (by omega) (by omega)
      have i3 := ix2 bc oc gs2.length c3 k (by omega) (by omega)
      have hgu := eqGuard2
      clear e1 e2
      generalize gs[k] = g at *
      obtain ⟨gx, gy⟩ := g
      simp only at p1 p2 p3 p4 p5 p6
      have hel := eql_arr2 gx gy gx gy
      rw [show (gx == gx && gy == gy) = true by simp] at hel
      go_wp2
      go_quiet (fail)
      go_wp2
      go_roundw
      case rel => exact ⟨k + 1, by omega, rfl, by go_num, q + nq, rfl⟩
      case measure => simp [intOf]; omega
    · have hd : decide ((k : Int) < (gs.length : Int)) = false := by simp; omega
      have lq : Below w.heap.size w (V6.drewN q) := below_drewN lo' q
      have j1 : GX w3.heap.size n2 A1 c1 gs1.length gs1 (V6.drewN q) := ⟨g1.c0, g1.c1, g1.lt, g1.gr⟩
      have j2 : GX w4.heap.size n2 A2 c2 gs1.length gs1 (V6.drewN q) := ⟨g2.c0, g2.c1, g2.lt, g2.gr⟩
      have j3 : GX w5.heap.size n2 A3 c3 gs2.length gs2 (V6.drewN q) := ⟨g3.c0, g3.c1, g3.lt, g3.gr⟩
      have j4 : GX w6.heap.size n2 A4 c4 gs2.length gs2 (V6.drewN q) := ⟨g4.c0, g4.c1, g4.lt, g4.gr⟩
      clear g1 g2 g3 g4 lo' k1 k3
      go_upto_region 18 with fail
      clear k0 g0'
      generalize V6.drewN q = U at *
      clear hd
      have m10 := j1.c0
      have m11 := j1.c1
      have m20 := j2.c0
      have m21 := j2.c1
      have m30 := j3.c0
      have m31 := j3.c1
      have m40 := j4.c0
      have m41 := j4.c1
      go_wp2_with fail
      refine (Right_any n2 A1 c1 gs1 U U.heap.size (by omega) j1.gr (Nat.le_refl _) aw).mono ?_
      rintro e U1 ⟨rfl, hbn⟩
      rw [hr1]
      replace lq := lq.trans (hbn.mono lq.size)
      replace j1 := j1.below hbn
      replace j2 := j2.below hbn
      replace j3 := j3.below hbn
      replace j4 := j4.below hbn
      clear hbn m10 m11 m20 m21 m30 m31 m40 m41
      have m10 := j1.c0
      have m11 := j1.c1
      have m20 := j2.c0
      have m21 := j2.c1
      have m30 := j3.c0
      have m31 := j3.c1
      have m40 := j4.c0
      have m41 := j4.c1
      go_wp2_with fail
      refine (Right_any n2 A3 c3 gs2 U1 U1.heap.size (by omega) j3.gr (Nat.le_refl _) iw).mono ?_
      rintro e U2 ⟨rfl, hbn⟩
      rw [hr2]
      replace lq := lq.trans (hbn.mono lq.size)
      replace j1 := j1.below hbn
      replace j2 := j2.below hbn
      replace j3 := j3.below hbn
      replace j4 := j4.below hbn
      clear hbn m10 m11 m20 m21 m30 m31 m40 m41
      have m10 := j1.c0
      have m11 := j1.c1
      have m20 := j2.c0
      have m21 := j2.c1
      have m30 := j3.c0
      have m31 := j3.c1
      have m40 := j4.c0
      have m41 := j4.c1
      go_wp2_with fail
      refine (same_true n2 A1 A2 c1 c2 gs1 U2 (by omega) j1.gr j2.gr).mono ?_
      rintro e U3 ⟨rfl, hbn⟩
      replace lq := lq.trans (hbn.mono lq.size)
      replace j1 := j1.below hbn
      replace j2 := j2.below hbn
      replace j3 := j3.below hbn
      replace j4 := j4.below hbn
      clear hbn m10 m11 m20 m21 m30 m31 m40 m41
      have m10 := j1.c0
      have m11 := j1.c1
      have m20 := j2.c0
      have m21 := j2.c1
      have m30 := j3.c0
      have m31 := j3.c1
      have m40 := j4.c0
      have m41 := j4.c1
      go_wp2_with fail
      refine (same_true n2 A3 A4 c3 c4 gs2 U3 (by omega) j3.gr j4.gr).mono ?_
      rintro e U4 ⟨rfl, hbn⟩
      replace lq := lq.trans (hbn.mono lq.size)
      replace j1 := j1.below hbn
      replace j2 := j2.below hbn
      replace j3 := j3.below hbn
      replace j4 := j4.below hbn
      clear hbn m10 m11 m20 m21 m30 m31 m40 m41
      have m10 := j1.c0
      have m11 := j1.c1
      have m20 := j2.c0
      have m21 := j2.c1
      have m30 := j3.c0
      have m31 := j3.c1
      have m40 := j4.c0
      have m41 := j4.c1
      go_wp2_with fail
      refine (lit_any n2 A1 gs1.length c1 l1 U4 (by omega)).mono ?_
      rintro e U5 ⟨rfl, hbn⟩
      rw [hl1]
      replace lq := lq.trans (hbn.mono lq.size)
      replace j1 := j1.below hbn
      replace j2 := j2.below hbn
      replace j3 := j3.below hbn
      replace j4 := j4.below hbn
      clear hbn m10 m11 m20 m21 m30 m31 m40 m41
      have m10 := j1.c0
      have m11 := j1.c1
      have m20 := j2.c0
      have m21 := j2.c1
      have m30 := j3.c0
      have m31 := j3.c1
      have m40 := j4.c0
      have m41 := j4.c1
      go_wp2_with fail
      refine (lit_any n2 A3 gs2.length c3 l2 U5 (by omega)).mono ?_
      rintro e U6 ⟨rfl, hbn⟩
      rw [hl2]
      replace lq := lq.trans (hbn.mono lq.size)
      replace j1 := j1.below hbn
      replace j2 := j2.below hbn
      replace j3 := j3.below hbn
      replace j4 := j4.below hbn
      clear hbn m10 m11 m20 m21 m30 m31 m40 m41
      go_wp2
      go_ret
      exact ⟨rfl, lq⟩

set_option maxRecDepth 100000 in
theorem right_lifted (os : Os) (started : os.Started) (H : Type) (enc : TypeId × Value → H) :
    ReturnsInHanded {} Try.checked os 7 .any (Rows.graphRightSpec.pre6 enc Try.prog Try.f7 Rows.graphRightRow.domain false) (Rows.graphRightSpec.post enc Try.prog Try.f7 false true false false) := by
  refine returnsInHanded_of_change (C := Try.checked) Try.own started (by kernel_rfl) Try.func7
    (ChangeSpec.witness6 (enc := enc) (C := Try.checked) false ⟨#[], #[.int .u8 0, .slice none 0 0, .int .u8 0, .int .u8 0, .int .u8 0], []⟩ 8 (by kernel_rfl) (by kernel_rfl) (by kernel_rfl) (by kernel_rfl)) ?_
  intro W base args ds gs before hval0 hW hcnd _
  have hval : ∀ (j : Nat) t v, Try.f7.params[j]? = some t → args[j]? = some v → Value.okWide Try.prog W .any base t v := hval0
  have hW' := hW
  obtain ⟨p, q, hA0, hV, rfl, hfz, hnd⟩ := hW
  have hA : DataW.TrodAll enc Try.prog W 0 (fun _ => true) true Try.f7.params.toList args.toList ds p := hA0
  rw [Try.params7] at hA hval
  obtain ⟨v0, vs0, d0, ds0, p0, q0, hargs, rfl, rfl, h0, r0⟩ := trodAll_cons hA
  obtain ⟨v1, vs1, d1, ds1, p1, q1, rfl, rfl, rfl, h1, r1⟩ := trodAll_cons r0
  obtain ⟨v2, vs2, d2, ds2, p2, q2, rfl, rfl, rfl, h2, r2⟩ := trodAll_cons r1
  obtain ⟨v3, vs3, d3, ds3, p3, q3, rfl, rfl, rfl, h3, r3⟩ := trodAll_cons r2
  obtain ⟨v4, vs4, d4, ds4, p4, q4, rfl, rfl, rfl, h4, r4⟩ := trodAll_cons r3
  obtain ⟨rfl, rfl, rfl⟩ := trodAll_nil r4
  obtain rfl : args = #[v0, v1, v2, v3, v4] := by cases args; simp_all
  obtain ⟨rfl, rfl⟩ := trodVars_none hV
  obtain ⟨a0, rfl, rfl, rfl, w0⟩ := open_int Try.underlying5 (hval 0 5 v0 rfl rfl) h0
  have b0 := bounds_u8 w0
  obtain ⟨a2, rfl, rfl, rfl, w2⟩ := open_int Try.underlying5 (hval 2 5 v2 rfl rfl) h2
  have b2 := bounds_u8 w2
  obtain ⟨a3, rfl, rfl, rfl, w3⟩ := open_int Try.underlying5 (hval 3 5 v3 rfl rfl) h3
  have b3 := bounds_u8 w3
  obtain ⟨a4, rfl, rfl, rfl, w4⟩ := open_int Try.underlying5 (hval 4 5 v4 rfl rfl) h4
  have b4 := bounds_u8 w4
  have hlt := fun x hx => hW'.lt x hx
  obtain ⟨x1, len1, cap1, hs1⟩ := okWide_slice Try.underlying27 (hval 1 27 v1 rfl rfl)
  subst hs1
  have hk1 := h1
  obtain ⟨fuel, hf⟩ := h1
  obtain ⟨A1, c1, zs, hs1, hU, hml⟩ := open_us hf
  simp only [Value.slice.injEq] at hs1
  obtain ⟨rfl, rfl, rfl⟩ := hs1
  clear hA0 hval0
  refine (right_walk a0 _ _ zs a2 a3 a4 W b0.1 b0.2 hml hU b2.1 b2.2 b3.1 b3.2 b4.1 b4.2).mono fun e W' ⟨he, hg⟩ => ?_
  subst he
  exact ⟨_, rfl, post_low (pv := []) hW' (fun _ _ _ => (trodAll_cons_mk (shut_bool Try.underlying4 _) trodAll_mk0))
    (fun sp hsp => (trodAll_cons_mk (shut_int Try.underlying5 w0) (trodAll_cons_mk (Trod_stays Try.laid2 (by kernel_rfl) (by decide +kernel) hk1 (fun x hx => hg.same (hlt x (by simp [hx]))) (fun x hx => hsp x (by simp [hx]))) (trodAll_cons_mk (shut_int Try.underlying5 w2) (trodAll_cons_mk (shut_int Try.underlying5 w3) (trodAll_cons_mk (shut_int Try.underlying5 w4) trodAll_mk0)))))) (fun _ _ => rfl) (by simp)
    hg (ok_one (by kernel_rfl) rfl (okWide_bool_mk Try.underlying4 _))⟩

theorem graphRight_holds : Rows.GraphRightSaid :=
  OpenClaim.holds_of_wide 7 Try.f7 rfl rfl rfl rfl rfl rfl rfl ⟨rfl, rfl, rfl, rfl, rfl⟩ rfl rfl rfl rfl rfl (by kernel_rfl) Try.func7 (by kernel_rfl)
    (of_decide_eq_true (by kernel_rfl)) (by unfold Func.isWrapper; first | (rw [if_pos (by decide +kernel)]; kernel_rfl) | (rw [if_neg (by decide +kernel)]; exact ⟨rfl, rfl⟩))
    (fun os started H enc _ => right_lifted os started H enc)
#print axioms graphRight_holds
end Go.Proofs.Yticallikogheiaa
