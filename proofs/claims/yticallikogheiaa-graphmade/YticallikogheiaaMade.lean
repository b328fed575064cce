/- 'parterrelaw01.GraphMade' returns true at every input, and each argument reads afterwards as it read before. No condition. -/
import Derived.Test.YticallikogheiaaBC
namespace Go.Proofs.Yticallikogheiaa
open Go.ChangeShapes Go.WideShapes Go.ChangeAt Go.RowKit Go.Deep Go.Joins Go.WideElems

theorem tmod_small {a M : Int} (h0 : 0 ≤ a) (h1 : a ≤ 255) (hM : 0 < M) : (IntKind.i64.wrap a).tmod M ≤ 255 := by
  have e : IntKind.i64.wrap a = a := by rw [IntKind.wrap_i64]; omega
  rw [e, Int.tmod_eq_emod_of_nonneg h0]
  have h2 := Int.emod_def a M
  have h3 := Int.mul_nonneg (Int.le_of_lt hM) (Int.ediv_nonneg h0 (Int.le_of_lt hM))
  omega

set_option maxRecDepth 100000 in
set_option maxHeartbeats 8000000 in
theorem mades_walk (a0 : Int) (A0 : Option Addr) (c0 : Nat) (zs : List Int) (a2 a3 a4 : Int) (w : World) (h0 : 0 ≤ a0) (h0' : a0 ≤ 255) (hm : zs.length ≤ maxLen) (hU : Us w w.heap.size A0 zs) (h2 : 0 ≤ a2) (h2' : a2 ≤ 255) (h3 : 0 ≤ a3) (h3' : a3 ≤ 255) (h4 : 0 ≤ a4) (h4' : a4 ≤ 255) :
    Calls Try.prog 4 #[.int .u8 a0, .slice A0 zs.length c0, .int .u8 a2, .int .u8 a3, .int .u8 a4] w fun e w' => e = .returned (.bool true) ∧ Below w.heap.size w w' := by
  have HMD := Lib.hid (made_any (a0 % 7) A0 c0 zs w (by omega) (by omega) hm hU)
  clear hm
  go_enter Try.func4, Try.ntmps4
  go_wp2_with fail
  have hn0 : 0 ≤ a0 % 7 := by omega
  have hn6 : a0 % 7 ≤ 6 := by omega
  generalize a0 % 7 = n at *
  refine HMD.out.mono ?_
  rintro e w1 ⟨A, c, gs, last, rfl, hG, hgood, hb1⟩
  have g0 := GX.new (n := n) (c := c) (l := gs.length) hG 24
  have lo := hb1.alloc hb1.size (Obj.cells #[.int .i64 n, .slice A gs.length c] 24)
  obtain ⟨hr, hfew, hwf, hlit⟩ := hgood
  have hll := lit_facts hlit
  clear HMD hG hb1
  go_upto_region 2 with fail
  generalize w1.alloc (Obj.cells #[.int .i64 n, .slice A gs.length c] 24) = V at *
  have k0 := g0.c0
  have k1 := g0.c1
  go_wp2_with fail
  refine (refVars_any n A gs.length c V hn0 (by omega) (by omega)).mono ?_
  rintro e w2 ⟨rfl, hb2⟩
  replace g0 := g0.below hb2
  replace lo := lo.trans (hb2.mono lo.size)
  clear k0 k1 hb2
  go_upto_region 3 with fail
  have hM0 : 0 < 2 * (n + 1 + (gs.length : Int)) + 1 := by omega
  have hM9 : 2 * (n + 1 + (gs.length : Int)) + 1 ≤ 95 := by omega
  have hl9 : last ≤ 94 := by omega
  generalize 2 * (n + 1 + (gs.length : Int)) + 1 = M at *
  have hM2 : ¬ M = 0 := by omega
  have x1 := tmod_small (M := M) h2 h2' hM0
  have y1 := tmod_small (M := M) h3 h3' hM0
  have u1 := tmod_small (M := M) h4 h4' hM0
  have CS1 := Lib.hid (fun V (h : Gr V V.heap.size A gs) => same_law n A c gs ((IntKind.i64.wrap a2).tmod M) ((IntKind.i64.wrap a3).tmod M) ((IntKind.i64.wrap a4).tmod M) V (by omega) h hwf (by omega) (by omega) (by omega))
  have CS2 := Lib.hid (fun V (h : Gr V V.heap.size A gs) => same_law n A c gs last ((IntKind.i64.wrap a2).tmod M) ((IntKind.i64.wrap a4).tmod M) V (by omega) h hwf (by omega) (by omega) (by omega))
  clear x1 y1 u1
  replace g0 := g0.drew
  replace lo := lo.drew
  go_region_held3 (fun W => W.cell? ⟨w1.heap.size, 0, none⟩ = some (.int .i64 n) ∧ W.cell? ⟨w1.heap.size, 1, none⟩ = some (.slice A gs.length c))
    (exact ⟨g0.c0, g0.c1⟩)
    (first | (go_at_call 10; refine (awake_any _).mono ?_; rintro e wn ⟨rfl, hbn⟩; replace g0 := g0.below hbn; replace lo := lo.trans (hbn.mono lo.size))
           | (go_at_call 11; ((with_reducible refine (CS1.out _ g0.gr).mono ?_); rintro e wn ⟨rfl, hbn⟩; replace g0 := g0.below hbn; replace lo := lo.trans (hbn.mono lo.size)))
           | (go_at_call 11; ((with_reducible refine (CS2.out _ g0.gr).mono ?_); rintro e wn ⟨rfl, hbn⟩; replace g0 := g0.below hbn; replace lo := lo.trans (hbn.mono lo.size))))
  go_wp2
  go_ret
  exact ⟨rfl, lo⟩

set_option maxRecDepth 100000 in
theorem mades_lifted (os : Os) (started : os.Started) (H : Type) (enc : TypeId × Value → H) :
    ReturnsInHanded {} Try.checked os 4 .any (Rows.graphMadeSpec.pre6 enc Try.prog Try.f4 Rows.graphMadeRow.domain false) (Rows.graphMadeSpec.post enc Try.prog Try.f4 false true false false) := by
  refine returnsInHanded_of_change (C := Try.checked) Try.own started (by kernel_rfl) Try.func4
    (ChangeSpec.witness6 (enc := enc) (C := Try.checked) false ⟨#[], #[.int .u8 0, .slice none 0 0, .int .u8 0, .int .u8 0, .int .u8 0], []⟩ 8 (by kernel_rfl) (by kernel_rfl) (by kernel_rfl) (by kernel_rfl)) ?_
  intro W base args ds gs before hval0 hW hcnd _
  have hval : ∀ (j : Nat) t v, Try.f4.params[j]? = some t → args[j]? = some v → Value.okWide Try.prog W .any base t v := hval0
  have hW' := hW
  obtain ⟨p, q, hA0, hV, rfl, hfz, hnd⟩ := hW
  have hA : DataW.TrodAll enc Try.prog W 0 (fun _ => true) true Try.f4.params.toList args.toList ds p := hA0
  rw [Try.params4] at hA hval
  obtain ⟨v0, vs0, d0, ds0, p0, q0, hargs, rfl, rfl, h0, r0⟩ := trodAll_cons hA
  obtain ⟨v1, vs1, d1, ds1, p1, q1, rfl, rfl, rfl, h1, r1⟩ := trodAll_cons r0
  obtain ⟨v2, vs2, d2, ds2, p2, q2, rfl, rfl, rfl, h2, r2⟩ := trodAll_cons r1
  obtain ⟨v3, vs3, d3, ds3, p3, q3, rfl, rfl, rfl, h3, r3⟩ := trodAll_cons r2
  obtain ⟨v4, vs4, d4, ds4, p4, q4, rfl, rfl, rfl, h4, r4⟩ := trodAll_cons r3
  obtain ⟨rfl, rfl, rfl⟩ := trodAll_nil r4
  obtain rfl : args = #[v0, v1, v2, v3, v4] := by cases args; simp_all
  obtain ⟨rfl, rfl⟩ := trodVars_none hV
  obtain ⟨a0, rfl, rfl, rfl, w0⟩ := open_int Try.underlying5 (hval 0 5 v0 rfl rfl) h0
  have b0 := bounds_u8 w0
  obtain ⟨a2, rfl, rfl, rfl, w2⟩ := open_int Try.underlying5 (hval 2 5 v2 rfl rfl) h2
  have b2 := bounds_u8 w2
  obtain ⟨a3, rfl, rfl, rfl, w3⟩ := open_int Try.underlying5 (hval 3 5 v3 rfl rfl) h3
  have b3 := bounds_u8 w3
  obtain ⟨a4, rfl, rfl, rfl, w4⟩ := open_int Try.underlying5 (hval 4 5 v4 rfl rfl) h4
  have b4 := bounds_u8 w4
  have hlt := fun x hx => hW'.lt x hx
  obtain ⟨x1, len1, cap1, hs1⟩ := okWide_slice Try.underlying27 (hval 1 27 v1 rfl rfl)
  subst hs1
  have hk1 := h1
  obtain ⟨fuel, hf⟩ := h1
  obtain ⟨A1, c1, zs, hs1, hU, hml⟩ := open_us hf
  simp only [Value.slice.injEq] at hs1
  obtain ⟨rfl, rfl, rfl⟩ := hs1
  clear hA0 hval0
  refine (mades_walk a0 _ _ zs a2 a3 a4 W b0.1 b0.2 hml hU b2.1 b2.2 b3.1 b3.2 b4.1 b4.2).mono fun e W' ⟨he, hg⟩ => ?_
  subst he
  exact ⟨_, rfl, post_low (pv := []) hW' (fun _ _ _ => (trodAll_cons_mk (shut_bool Try.underlying4 _) trodAll_mk0))
    (fun sp hsp => (trodAll_cons_mk (shut_int Try.underlying5 w0) (trodAll_cons_mk (Trod_stays Try.laid2 (by kernel_rfl) (by decide +kernel) hk1 (fun x hx => hg.same (hlt x (by simp [hx]))) (fun x hx => hsp x (by simp [hx]))) (trodAll_cons_mk (shut_int Try.underlying5 w2) (trodAll_cons_mk (shut_int Try.underlying5 w3) (trodAll_cons_mk (shut_int Try.underlying5 w4) trodAll_mk0)))))) (fun _ _ => rfl) (by simp)
    hg (ok_one (by kernel_rfl) rfl (okWide_bool_mk Try.underlying4 _))⟩

theorem graphMade_holds : Rows.GraphMadeSaid :=
  OpenClaim.holds_of_wide 4 Try.f4 rfl rfl rfl rfl rfl rfl rfl ⟨rfl, rfl, rfl, rfl, rfl⟩ rfl rfl rfl rfl rfl (by kernel_rfl) Try.func4 (by kernel_rfl)
    (of_decide_eq_true (by kernel_rfl)) (by unfold Func.isWrapper; first | (rw [if_pos (by decide +kernel)]; kernel_rfl) | (rw [if_neg (by decide +kernel)]; exact ⟨rfl, rfl⟩))
    (fun os started H enc _ => mades_lifted os started H enc)
#print axioms graphMade_holds
end Go.Proofs.Yticallikogheiaa
