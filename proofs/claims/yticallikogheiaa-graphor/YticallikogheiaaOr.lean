/- 'parterrelaw01.GraphOr' returns true at every input, and each argument reads afterwards as it read before. No condition. -/
import Derived.Test.YticallikogheiaaBC
namespace Go.Proofs.Yticallikogheiaa
open Go.ChangeShapes Go.WideShapes Go.ChangeAt Go.RowKit Go.Deep Go.Joins Go.WideElems

set_option maxRecDepth 100000 in
set_option maxHeartbeats 4000000 in
theorem or_walk (a0 : Int) (A0 : Option Addr) (c0 : Nat) (zs : List Int) (a2 : Int) (w : World) (h0 : 0 ≤ a0) (h0' : a0 ≤ 255) (hm : zs.length ≤ maxLen) (hU : Us w w.heap.size A0 zs) (h2 : 0 ≤ a2) (h2' : a2 ≤ 255) :
    Calls Try.prog 8 #[.int .u8 a0, .slice A0 zs.length c0, .int .u8 a2] w fun e w' => e = .returned (.bool true) ∧ Below w.heap.size w w' := by
  have HMD := Lib.hid (made_any (a0 % 7) A0 c0 zs w (by omega) (by omega) hm hU)
  clear hm
  go_enter Try.func8, Try.ntmps8
  go_wp2_with fail
  have hn0 : 0 ≤ a0 % 7 := by omega
  have hn6 : a0 % 7 ≤ 6 := by omega
  generalize a0 % 7 = n at *
  refine HMD.out.mono ?_
  rintro e w1 ⟨A, c, gs, last, rfl, hG, hgood, hb1⟩
  have g0 := GX.new (n := n) (c := c) (l := gs.length) hG 24
  have lo := hb1.alloc hb1.size (Obj.cells #[.int .i64 n, .slice A gs.length c] 24)
  obtain ⟨hr, hfew, hwf, hlit⟩ := hgood
  have hll := lit_facts hlit
  clear HMD hG hb1
  go_upto_region 2 with fail
  generalize w1.alloc (Obj.cells #[.int .i64 n, .slice A gs.length c] 24) = V at *
  have k0 := g0.c0
  have k1 := g0.c1
  go_wp2_with fail
  refine (refVars_any n A gs.length c V hn0 (by omega) (by omega)).mono ?_
  rintro e w2 ⟨rfl, hb2⟩
  replace g0 := g0.below hb2
  replace lo := lo.trans (hb2.mono lo.size)
  clear k0 k1 hb2
  have k0 := g0.c0
  have k1 := g0.c1
  have hM2 : ¬ (2 * (n + 1 + (gs.length : Int))) = 0 := by omega
  have hM0 : 0 < 2 * (n + 1 + (gs.length : Int)) := by omega
  go_upto_region 3 with fail
  have hx0 := Int.emod_nonneg a2 hM2
  have hx1 := Int.emod_lt_of_pos a2 hM0
  have hM9 : 2 * (n + 1 + (gs.length : Int)) ≤ 94 := by omega
  generalize 2 * (n + 1 + (gs.length : Int)) = M at *
  generalize a2 % M = x at *
  have hbx := Gm.bits_neg x hx0 (by omega)
  have hnx : Gm.negB x ≤ 94 := by unfold Gm.negB; split <;> omega
  go_wp2_with fail
  refine (awake_any w2).mono ?_
  rintro e w3 ⟨rfl, hb3⟩
  replace g0 := g0.below hb3
  replace lo := lo.trans (hb3.mono lo.size)
  clear k0 k1 hb3
  have k0 := g0.c0
  have k1 := g0.c1
  go_wp2_with fail
  refine (same_law n A c gs x x last w3 (by omega) g0.gr hwf (by omega) (by omega) (by omega)).mono ?_
  rintro e w4 ⟨rfl, hb3⟩
  replace g0 := g0.below hb3
  replace lo := lo.trans (hb3.mono lo.size)
  clear k0 k1 hb3
  have k0 := g0.c0
  have k1 := g0.c1
  go_wp2_with fail
  refine (same_law n A c gs x (Gm.negB x) last w4 (by omega) g0.gr hwf (by omega) (by omega) (by omega)).mono ?_
  rintro e w5 ⟨rfl, hb3⟩
  replace g0 := g0.below hb3
  replace lo := lo.trans (hb3.mono lo.size)
  clear k0 k1 hb3
  have k0 := g0.c0
  have k1 := g0.c1
  go_wp2_with fail
  refine (same_law n A c gs x 0 x w5 (by omega) g0.gr hwf (by omega) (by omega) (by omega)).mono ?_
  rintro e w6 ⟨rfl, hb3⟩
  replace g0 := g0.below hb3
  replace lo := lo.trans (hb3.mono lo.size)
  clear k0 k1 hb3
  have k0 := g0.c0
  have k1 := g0.c1
  go_wp2_with fail
  refine (same_law n A c gs 1 x (Gm.negB x) w6 (by omega) g0.gr hwf (by omega) (by omega) (by omega)).mono ?_
  rintro e w7 ⟨rfl, hb3⟩
  replace lo := lo.trans (hb3.mono lo.size)
  go_wp2
  go_ret
  exact ⟨rfl, lo⟩

set_option maxRecDepth 100000 in
theorem or_lifted (os : Os) (started : os.Started) (H : Type) (enc : TypeId × Value → H) :
    ReturnsInHanded {} Try.checked os 8 .any (Rows.graphOrSpec.pre6 enc Try.prog Try.f8 Rows.graphOrRow.domain false) (Rows.graphOrSpec.post enc Try.prog Try.f8 false true false false) := by
  refine returnsInHanded_of_change (C := Try.checked) Try.own started (by kernel_rfl) Try.func8
    (ChangeSpec.witness6 (enc := enc) (C := Try.checked) false ⟨#[], #[.int .u8 0, .slice none 0 0, .int .u8 0], []⟩ 8 (by kernel_rfl) (by kernel_rfl) (by kernel_rfl) (by kernel_rfl)) ?_
  intro W base args ds gs before hval0 hW hcnd _
  have hval : ∀ (j : Nat) t v, Try.f8.params[j]? = some t → args[j]? = some v → Value.okWide Try.prog W .any base t v := hval0
  have hW' := hW
  obtain ⟨p, q, hA0, hV, rfl, hfz, hnd⟩ := hW
  have hA : DataW.TrodAll enc Try.prog W 0 (fun _ => true) true Try.f8.params.toList args.toList ds p := hA0
  rw [Try.params8] at hA hval
  obtain ⟨v0, vs0, d0, ds0, p0, q0, hargs, rfl, rfl, h0, r0⟩ := trodAll_cons hA
  obtain ⟨v1, vs1, d1, ds1, p1, q1, rfl, rfl, rfl, h1, r1⟩ := trodAll_cons r0
  obtain ⟨v2, vs2, d2, ds2, p2, q2, rfl, rfl, rfl, h2, r2⟩ := trodAll_cons r1
  obtain ⟨rfl, rfl, rfl⟩ := trodAll_nil r2
  obtain rfl : args = #[v0, v1, v2] := by cases args; simp_all
  obtain ⟨rfl, rfl⟩ := trodVars_none hV
  obtain ⟨a0, rfl, rfl, rfl, w0⟩ := open_int Try.underlying5 (hval 0 5 v0 rfl rfl) h0
  have b0 := bounds_u8 w0
  obtain ⟨a2, rfl, rfl, rfl, w2⟩ := open_int Try.underlying5 (hval 2 5 v2 rfl rfl) h2
  have b2 := bounds_u8 w2
  have hlt := fun x hx => hW'.lt x hx
  obtain ⟨x1, len1, cap1, hs1⟩ := okWide_slice Try.underlying27 (hval 1 27 v1 rfl rfl)
  subst hs1
  have hk1 := h1
  obtain ⟨fuel, hf⟩ := h1
  obtain ⟨A1, c1, zs, hs1, hU, hml⟩ := open_us hf
  simp only [Value.slice.injEq] at hs1
  obtain ⟨rfl, rfl, rfl⟩ := hs1
  clear hA0 hval0
  refine (or_walk a0 _ _ zs a2 W b0.1 b0.2 hml hU b2.1 b2.2).mono fun e W' ⟨he, hg⟩ => ?_
  subst he
  exact ⟨_, rfl, post_low (pv := []) hW' (fun _ _ _ => (trodAll_cons_mk (shut_bool Try.underlying4 _) trodAll_mk0))
    (fun sp hsp => (trodAll_cons_mk (shut_int Try.underlying5 w0) (trodAll_cons_mk (Trod_stays Try.laid2 (by kernel_rfl) (by decide +kernel) hk1 (fun x hx => hg.same (hlt x (by simp [hx]))) (fun x hx => hsp x (by simp [hx]))) (trodAll_cons_mk (shut_int Try.underlying5 w2) trodAll_mk0)))) (fun _ _ => rfl) (by simp)
    hg (ok_one (by kernel_rfl) rfl (okWide_bool_mk Try.underlying4 _))⟩

theorem graphOr_holds : Rows.GraphOrSaid :=
  OpenClaim.holds_of_wide 8 Try.f8 rfl rfl rfl rfl rfl rfl rfl ⟨rfl, rfl, rfl, rfl, rfl⟩ rfl rfl rfl rfl rfl (by kernel_rfl) Try.func8 (by kernel_rfl)
    (of_decide_eq_true (by kernel_rfl)) (by unfold Func.isWrapper; first | (rw [if_pos (by decide +kernel)]; kernel_rfl) | (rw [if_neg (by decide +kernel)]; exact ⟨rfl, rfl⟩))
    (fun os started H enc _ => or_lifted os started H enc)
#print axioms graphOr_holds
end Go.Proofs.Yticallikogheiaa
