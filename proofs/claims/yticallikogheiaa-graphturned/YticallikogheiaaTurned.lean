/- 'parterrelaw01.GraphTurned' returns true at every input, and each argument reads afterwards as it read before. No condition. -/
import Derived.Test.YticallikogheiaaBC
namespace Go.Proofs.Yticallikogheiaa
open Go.ChangeShapes Go.WideShapes Go.ChangeAt Go.RowKit Go.Deep Go.Joins Go.WideElems

set_option maxRecDepth 100000 in
set_option maxHeartbeats 8000000 in
theorem turned_walk (a0 : Int) (A0 : Option Addr) (c0 : Nat) (zs : List Int) (a2 a3 : Int) (w : World) (h0 : 0 ≤ a0) (h0' : a0 ≤ 255) (hm : zs.length ≤ maxLen) (hU : Us w w.heap.size A0 zs) (h2 : 0 ≤ a2) (h2' : a2 ≤ 255) (h3 : 0 ≤ a3) (h3' : a3 ≤ 255) :
    Calls Try.prog 9 #[.int .u8 a0, .slice A0 zs.length c0, .int .u8 a2, .int .u8 a3] w fun e w' => e = .returned (.bool true) ∧ Below w.heap.size w w' := by
  have hnot : ∀ (x : Bool) (w : World), (Op.unary .not (.bool x)).run Try.prog w = .ok (.bool (!x)) w := fun _ _ => rfl
  have HMD := Lib.hid (fun V (h : Us V V.heap.size A0 zs) => made_any (a0 % 7) A0 c0 zs V (by omega) (by omega) hm h)
  clear hm
  go_enter Try.func9, Try.ntmps9
  go_wp2_with fail
  refine (awake_any w).mono ?_
  rintro e w0 ⟨rfl, lo⟩
  have hU0 : Us w0 w0.heap.size A0 zs := fun k hk => by
    obtain ⟨b, off, e, hb, r⟩ := (hU.below lo (Nat.le_refl _)) k hk
    exact ⟨b, off, e, Nat.lt_of_lt_of_le hb lo.size, r⟩
  go_wp2_with fail
  have hn0 : 0 ≤ a0 % 7 := by omega
  have hn6 : a0 % 7 ≤ 6 := by omega
  generalize a0 % 7 = n at *
  refine (HMD.out w0 hU0).mono ?_
  rintro e w1 ⟨A, c, gs, last, rfl, hG, hgood, hb1⟩
  have g0 := GX.new (n := n) (c := c) (l := gs.length) hG 24
  replace lo := (lo.trans (hb1.mono lo.size)).alloc (Nat.le_trans lo.size hb1.size) (Obj.cells #[.int .i64 n, .slice A gs.length c] 24)
  obtain ⟨hr, hfew, hwf, hlit⟩ := hgood
  clear HMD hG hb1 hU0
  go_upto_region 5 with fail
  generalize w1.alloc (Obj.cells #[.int .i64 n, .slice A gs.length c] 24) = V at *
  have k0 := g0.c0
  have k1 := g0.c1
  go_wp2_with fail
  refine (refVars_any n A gs.length c V hn0 (by omega) (by omega)).mono ?_
  rintro e w2 ⟨rfl, hb2⟩
  replace g0 := g0.below hb2
  replace lo := lo.trans (hb2.mono lo.size)
  clear k0 k1 hb2
  go_upto_region 6 with fail
  have HM : Hid (2 * (n + 1 + (gs.length : Int)) = 2 * (1 + n + (gs.length : Int))) := by show _ = _; omega
  have hM0 : 0 < 2 * (n + 1 + (gs.length : Int)) := by omega
  have hM9 : 2 * (n + 1 + (gs.length : Int)) ≤ 94 := by omega
  generalize 2 * (n + 1 + (gs.length : Int)) = M at *
  have hM2 : ¬ M = 0 := by omega
  have x0 := Int.emod_nonneg a2 hM2
  have x1 := Int.emod_lt_of_pos a2 hM0
  have y0 := Int.emod_nonneg a3 hM2
  have y1 := Int.emod_lt_of_pos a3 hM0
  go_quiet (fail)
  go_upto_region 7 with fail
  generalize a2 % M = x at *
  generalize a3 % M = y at *
  have lx : Gm.litB n gs.length x = true := lit_mk hn0 (by omega) x0 (by have := HM.out; omega)
  have ly : Gm.litB n gs.length y = true := lit_mk hn0 (by omega) y0 (by have := HM.out; omega)
  have l1 : Gm.litB n gs.length 1 = true := lit_mk hn0 (by omega) (by omega) (by omega)
  have hbx := Gm.bits_neg x x0 (by omega)
  have hby := Gm.bits_neg y y0 (by omega)
  obtain ⟨og, oe⟩ := or_good hr lx ly (by omega)
  have ig := ite_good hr lx l1 ly (by omega)
  have iw := (ite_len n gs x 1 y hwf).2
  have aw := (and_facts n gs (Gm.negB x) (Gm.negB y) hwf)
  have ag := and_good hr (neg_lit lx) (neg_lit ly) (by omega)
  have g0' : GX w1.heap.size n A c gs.length gs (w2.drewN nq) := ⟨g0.c0, g0.c1, g0.lt, g0.gr⟩
  have lo' : Below w.heap.size w (w2.drewN nq) := below_drewN lo nq
  clear g0 lo
  generalize w2.drewN nq = W2 at *
  have C1 := Lib.hid (or_any n A c gs x y W2 W2.heap.size (by omega) g0'.gr (Nat.le_refl _) hwf (by omega) (by omega))
  have C2 := Lib.hid (fun V (h : Gr V V.heap.size A gs) => and_any n A c gs (Gm.negB x) (Gm.negB y) V V.heap.size (by omega) h (Nat.le_refl _) hwf)
  have C3 := Lib.hid (fun V (h : Gr V V.heap.size A gs) => ite_any n A c gs x 1 y V V.heap.size (by omega) h (Nat.le_refl _) hwf (by omega))
  rw [oe] at C1
  clear og oe
  generalize Gm.andS n gs (Gm.negB x) (Gm.negB y) = r1 at *
  obtain ⟨⟨n1, gs1⟩, l1', er1⟩ := r1
  obtain ⟨he, hi, _, _, hgl, _⟩ := ag
  simp only at he hi hgl
  subst he hi
  have hq0 : 0 ≤ l1' := aw.lit0
  have hq1 : l1' ≤ 4000 := aw.lit1
  have hbl := Gm.bits_neg l1' hq0 (by omega)
  generalize Gm.iteS n1 gs x 1 y = r2 at *
  obtain ⟨⟨n2, gs2⟩, l2, er2⟩ := r2
  obtain ⟨he, hi, hr2, hl2, hgl2, _⟩ := ig
  simp only at he hi hr2 hl2 hgl2
  subst he hi
  have k0 := g0'.c0
  have k1 := g0'.c1
  go_wp2_with fail
  refine C1.out.mono ?_
  rintro e w3 ⟨A1, c1, rfl, hG1, _, hb1⟩
  replace lo' := (lo'.trans (hb1.mono lo'.size)).alloc (Nat.le_trans lo'.size hb1.size) (Obj.cells #[.int .i64 n2, .slice A1 gs1.length c1] 24)
  replace g0' := (g0'.below hb1).alloc (Obj.cells #[.int .i64 n2, .slice A1 gs1.length c1] 24)
  have g1 := GX.new (n := n2) (c := c1) (l := gs1.length) hG1 24
  clear k0 k1 hG1 hb1
  go_upto_region 8 with fail
  generalize w3.alloc (Obj.cells #[.int .i64 n2, .slice A1 gs1.length c1] 24) = V3 at *
  have k0 := g0'.c0
  have k1 := g0'.c1
  go_wp2_with fail
  refine (C2.out V3 g0'.gr).mono ?_
  rintro e w4 ⟨A2, c2, rfl, hG1, _, hb1⟩
  replace lo' := (lo'.trans (hb1.mono lo'.size)).alloc (Nat.le_trans lo'.size hb1.size) (Obj.cells #[.int .i64 n2, .slice A2 gs1.length c2] 24)
  replace g0' := (g0'.below hb1).alloc (Obj.cells #[.int .i64 n2, .slice A2 gs1.length c2] 24)
  replace g1 := (g1.below hb1).alloc (Obj.cells #[.int .i64 n2, .slice A2 gs1.length c2] 24)
  have g2 := GX.new (n := n2) (c := c2) (l := gs1.length) hG1 24
  clear k0 k1 hG1 hb1
  go_upto_region 9 with fail
  generalize w4.alloc (Obj.cells #[.int .i64 n2, .slice A2 gs1.length c2] 24) = V4 at *
  have k0 := g0'.c0
  have k1 := g0'.c1
  go_wp2_with fail
  refine (C3.out V4 g0'.gr).mono ?_
  rintro e w5 ⟨A3, c3, rfl, hG1, _, hb1⟩
  replace lo' := (lo'.trans (hb1.mono lo'.size)).alloc (Nat.le_trans lo'.size hb1.size) (Obj.cells #[.int .i64 n2, .slice A3 gs2.length c3] 24)
  replace g1 := (g1.below hb1).alloc (Obj.cells #[.int .i64 n2, .slice A3 gs2.length c3] 24)
  replace g2 := (g2.below hb1).alloc (Obj.cells #[.int .i64 n2, .slice A3 gs2.length c3] 24)
  have g3 := GX.new (n := n2) (c := c3) (l := gs2.length) hG1 24
  clear k0 k1 hG1 hb1
  go_upto_region 10 with fail
  generalize w5.alloc (Obj.cells #[.int .i64 n2, .slice A3 gs2.length c3] 24) = V5 at *
  have k0 := g1.c0
  have k1 := g1.c1
  have k2 := g2.c0
  have k3 := g2.c1
  go_wp2_with fail
  refine (same_true n2 A1 A2 c1 c2 gs1 V5 (by omega) g1.gr g2.gr).mono ?_
  rintro e w6 ⟨rfl, hb1⟩
  replace lo' := lo'.trans (hb1.mono lo'.size)
  replace g3 := g3.below hb1
  clear k0 k1 k2 k3 hb1
  have k0 := g3.c0
  have k1 := g3.c1
  go_wp2_with fail
  refine (Right_any n2 A3 c3 gs2 w6 w6.heap.size (by omega) g3.gr (Nat.le_refl _) iw).mono ?_
  rintro e w7 ⟨rfl, hb1⟩
  rw [hr2]
  replace lo' := lo'.trans (hb1.mono lo'.size)
  replace g3 := g3.below hb1
  clear k0 k1 hb1
  have k0 := g3.c0
  have k1 := g3.c1
  go_wp2_with fail
  refine (lit_any n2 A3 gs2.length c3 l2 w7 (by omega)).mono ?_
  rintro e w8 ⟨rfl, hb1⟩
  rw [hl2]
  replace lo' := lo'.trans (hb1.mono lo'.size)
  go_wp2
  go_ret
  exact ⟨rfl, lo'⟩

set_option maxRecDepth 100000 in
theorem turned_lifted (os : Os) (started : os.Started) (H : Type) (enc : TypeId × Value → H) :
    ReturnsInHanded {} Try.checked os 9 .any (Rows.graphTurnedSpec.pre6 enc Try.prog Try.f9 Rows.graphTurnedRow.domain false) (Rows.graphTurnedSpec.post enc Try.prog Try.f9 false true false false) := by
  refine returnsInHanded_of_change (C := Try.checked) Try.own started (by kernel_rfl) Try.func9
    (ChangeSpec.witness6 (enc := enc) (C := Try.checked) false ⟨#[], #[.int .u8 0, .slice none 0 0, .int .u8 0, .int .u8 0], []⟩ 8 (by kernel_rfl) (by kernel_rfl) (by kernel_rfl) (by kernel_rfl)) ?_
  intro W base args ds gs before hval0 hW hcnd _
  have hval : ∀ (j : Nat) t v, Try.f9.params[j]? = some t → args[j]? = some v → Value.okWide Try.prog W .any base t v := hval0
  have hW' := hW
  obtain ⟨p, q, hA0, hV, rfl, hfz, hnd⟩ := hW
  have hA : DataW.TrodAll enc Try.prog W 0 (fun _ => true) true Try.f9.params.toList args.toList ds p := hA0
  rw [Try.params9] at hA hval
  obtain ⟨v0, vs0, d0, ds0, p0, q0, hargs, rfl, rfl, h0, r0⟩ := trodAll_cons hA
  obtain ⟨v1, vs1, d1, ds1, p1, q1, rfl, rfl, rfl, h1, r1⟩ := trodAll_cons r0
  obtain ⟨v2, vs2, d2, ds2, p2, q2, rfl, rfl, rfl, h2, r2⟩ := trodAll_cons r1
  obtain ⟨v3, vs3, d3, ds3, p3, q3, rfl, rfl, rfl, h3, r3⟩ := trodAll_cons r2
  obtain ⟨rfl, rfl, rfl⟩ := trodAll_nil r3
  obtain rfl : args = #[v0, v1, v2, v3] := by cases args; simp_all
  obtain ⟨rfl, rfl⟩ := trodVars_none hV
  obtain ⟨a0, rfl, rfl, rfl, w0⟩ := open_int Try.underlying5 (hval 0 5 v0 rfl rfl) h0
  have b0 := bounds_u8 w0
  obtain ⟨a2, rfl, rfl, rfl, w2⟩ := open_int Try.underlying5 (hval 2 5 v2 rfl rfl) h2
  have b2 := bounds_u8 w2
  obtain ⟨a3, rfl, rfl, rfl, w3⟩ := open_int Try.underlying5 (hval 3 5 v3 rfl rfl) h3
  have b3 := bounds_u8 w3
  have hlt := fun x hx => hW'.lt x hx
  obtain ⟨x1, len1, cap1, hs1⟩ := okWide_slice Try.underlying27 (hval 1 27 v1 rfl rfl)
  subst hs1
  have hk1 := h1
  obtain ⟨fuel, hf⟩ := h1
  obtain ⟨A1, c1, zs, hs1, hU, hml⟩ := open_us hf
  simp only [Value.slice.injEq] at hs1
  obtain ⟨rfl, rfl, rfl⟩ := hs1
  clear hA0 hval0
  refine (turned_walk a0 _ _ zs a2 a3 W b0.1 b0.2 hml hU b2.1 b2.2 b3.1 b3.2).mono fun e W' ⟨he, hg⟩ => ?_
  subst he
  exact ⟨_, rfl, post_low (pv := []) hW' (fun _ _ _ => (trodAll_cons_mk (shut_bool Try.underlying4 _) trodAll_mk0))
    (fun sp hsp => (trodAll_cons_mk (shut_int Try.underlying5 w0) (trodAll_cons_mk (Trod_stays Try.laid2 (by kernel_rfl) (by decide +kernel) hk1 (fun x hx => hg.same (hlt x (by simp [hx]))) (fun x hx => hsp x (by simp [hx]))) (trodAll_cons_mk (shut_int Try.underlying5 w2) (trodAll_cons_mk (shut_int Try.underlying5 w3) trodAll_mk0))))) (fun _ _ => rfl) (by simp)
    hg (ok_one (by kernel_rfl) rfl (okWide_bool_mk Try.underlying4 _))⟩

theorem graphTurned_holds : Rows.GraphTurnedSaid :=
  OpenClaim.holds_of_wide 9 Try.f9 rfl rfl rfl rfl rfl rfl rfl ⟨rfl, rfl, rfl, rfl, rfl⟩ rfl rfl rfl rfl rfl (by kernel_rfl) Try.func9 (by kernel_rfl)
    (of_decide_eq_true (by kernel_rfl)) (by unfold Func.isWrapper; first | (rw [if_pos (by decide +kernel)]; kernel_rfl) | (rw [if_neg (by decide +kernel)]; exact ⟨rfl, rfl⟩))
    (fun os started H enc _ => turned_lifted os started H enc)
#print axioms graphTurned_holds
end Go.Proofs.Yticallikogheiaa
