/- ConeSupport, walked to its end. -/
import Derived.Test.YteknkaodogbaaaaCL
namespace Go.Proofs.Yteknkaodogbaaaa
open Go.RowKit

set_option maxRecDepth 100000 in
set_option maxHeartbeats 16000000 in
theorem coneSupport_walk (a0 : Int) (A0 : Option Addr) (c0 : Nat) (zs : List Int) (a2 a3 : Int) (w : World) (h0 : 0 ≤ a0) (h0' : a0 ≤ 255) (hm : zs.length ≤ maxLen) (hU : Us w w.heap.size A0 zs) (h2 : 0 ≤ a2) (h2' : a2 ≤ 255) (h3 : 0 ≤ a3) (h3' : a3 ≤ 255) :
    Calls Try.prog 3 #[.int .u8 a0, .slice A0 zs.length c0, .int .u8 a2, .int .u8 a3] w fun e w' => e = .returned (.bool true) ∧ Below w.heap.size w w' := by
  have HAW := Lib.hid (awake3_any w)
  have hnot : ∀ (x : Bool) (w : World), (Op.unary .not (.bool x)).run Try.prog w = .ok (.bool (!x)) w := fun _ _ => rfl
  have HMD := Lib.hid (fun V hV => made_any (a0 % 7) A0 c0 zs V (by omega) (by omega) hm hV)
  clear hm
  go_enter Try.func3, Try.ntmps3
  go_wp2_with fail
  refine HAW.out.mono ?_
  rintro e w0 ⟨rfl, lo⟩
  go_wp2_with fail
  have hn0 : 0 ≤ a0 % 7 := by omega
  have hn6 : a0 % 7 ≤ 6 := by omega
  generalize a0 % 7 = n at *
  obtain ⟨m, rfl⟩ := Int.eq_ofNat_of_zero_le hn0
  refine (HMD.out w0 ((hU.below lo (Nat.le_refl _)).more lo.size)).mono ?_
  rintro e w1 ⟨A, c, gs, last, rfl, hG, hgood, hb1⟩
  have g0 := GX.new (n := (m : Int)) (c := c) (l := gs.length) hG 26
  replace lo := (lo.trans (hb1.mono lo.size)).alloc (Nat.le_trans lo.size hb1.size) (Obj.cells #[.int .i64 m, .slice A gs.length c] 26)
  obtain ⟨hr, hfew, hwf, hlit⟩ := hgood
  clear HMD hG hb1 HAW
  go_upto_region 5 with fail
  generalize w1.alloc (Obj.cells #[.int .i64 m, .slice A gs.length c] 26) = V at *
  have k0 := g0.c0
  have k1 := g0.c1
  obtain ⟨hr0, hr1, hr2, _⟩ := right_facts hr
  have HSU := Lib.hid (support_any m A c gs last V (by omega) g0.gr hwf)
  rw [supportS_in hr hlit] at HSU
  have SF := sup_facts m gs last
  have HAG := Lib.hid (fun xs ys hx hy => sup_agree (xs := xs) (ys := ys) hr hlit hx hy)
  have HSL := Lib.hid (supK_le m gs last m)
  generalize supK m gs last m = sup at *
  go_wp2_with fail
  refine HSU.out.mono ?_
  rintro e w2 ⟨As, cs, rfl, hVs, hb2⟩
  replace g0 := g0.below hb2
  replace lo := lo.trans (hb2.mono lo.size)
  clear k0 k1 hb2 HSU
  have k0 := g0.c0
  have k1 := g0.c1
  have e2 : IntKind.i64.wrap a2 = a2 := by rw [IntKind.wrap_i64]; omega
  have e3 : IntKind.i64.wrap a3 = a3 := by rw [IntKind.wrap_i64]; omega
  have HB2 : Hid (∀ V, Calls Try.prog 11 #[.int .i64 (IntKind.i64.wrap a2), .int .i64 m] V (OList (bitsB a2 m) V)) := fun V => by rw [e2]; exact bits_own a2 m V h2 (by omega) (by omega)
  have HB3 : Hid (∀ V, Calls Try.prog 11 #[.int .i64 (IntKind.i64.wrap a3), .int .i64 m] V (OList (bitsB a3 m) V)) := fun V => by rw [e3]; exact bits_own a3 m V h3 (by omega) (by omega)
  clear e2 e3
  have HXL := Lib.hid (bitsB_length a2 m)
  have HYL := Lib.hid (bitsB_length a3 m)
  generalize bitsB a2 m = xs at *
  generalize bitsB a3 m = ys at *
  go_upto_region 6 with fail
  have lx := (Below.refl w2.heap.size w2).drew
  go_region_held3 (fun W => W.cell? ⟨w1.heap.size, 0, none⟩ = some (.int .i64 m))
    (exact (g0.below lx).c0)
    (first | (go_at_call 11; (with_reducible refine (HB2.out _).mono ?_); rintro e wa ⟨va, rfl, hoa, hba⟩; have hxo : OwnV wa w2.heap.size 4 va (bv xs) := hoa; have hxb := lx.trans hba; replace lx := lx.trans (hba.mono lx.size))
           | (go_at_call 11; (with_reducible refine (HB3.out _).mono ?_); rintro e wb ⟨vb, rfl, hob, hbb⟩; replace lx := lx.trans (hbb.mono lx.size)))
  clear HB2 HB3 hoa hba lx k0 k1
  rename_i hHeld
  clear hHeld
  obtain ⟨Ax, cx, hvx, hVx⟩ := hxo.vs
  obtain ⟨Ay, cy, hvy, _⟩ := hob.vs
  rw [List.length_map] at hvx hvy
  subst hvx hvy
  have hVs1 := (hVs.below hxb (Nat.le_refl _)).more hxb.size
  replace g0 := g0.below hxb
  replace lo := lo.trans (hxb.mono lo.size)
  clear hVs hxb hxo
  go_wp2_with fail
  go_loopw [15] (fun i wr => ∃ k : Nat, k ≤ sup.length ∧ i = .int .i64 k ∧ OwnV wr wa.heap.size 4 (.slice Ay ys.length cy) (bv (agreeY xs ys (sup.take k))) ∧ Below wa.heap.size wa wr) (fun i _ => sup.length - (intOf i).toNat)
  case atStart => exact ⟨0, Nat.zero_le _, rfl, hob, hbb⟩
  case round =>
    obtain ⟨k, hkl, rfl, hoy, lw⟩ := hrel
    have g1 := g0.below lw
    have k0 := g1.c0
    have k1 := g1.c1
    have hVs2 := hVs1.below lw (Nat.le_refl _)
    have hVx2 := hVx.below lw (Nat.le_refl _)
    have hsl := HSL.out
    by_cases hlt : k < sup.length
    · obtain ⟨bs, os, hA, hbs, qs⟩ := hVs2.int k hlt
      subst hA
      have hj := SF.low _ (List.getElem_mem hlt)
      have hjx : sup.getD k 0 = sup[k] := by simp [List.getD_eq_getElem?_getD, List.getElem?_eq_getElem hlt]
      rw [hjx] at qs
      have HT := Lib.hid (agreeY_take xs ys sup k hlt)
      have hix := ixI bs os sup.length cs k (by omega) hlt
      obtain ⟨r, hr3, hr4⟩ : ∃ r : Nat, sup[k] = (r : Int) + 1 ∧ r < m := ⟨(sup[k] - 1).toNat, by omega, by omega⟩
      have hr5 : (sup[k] - 1).toNat = r := by omega
      have hpr : ∀ k', k = k' + 1 → ∃ q : Int, wr.cell? ⟨bs, os + k', none⟩ = some (.int .i64 q) ∧ q < (r : Int) + 1 := by
        rintro k' rfl
        obtain ⟨b2, o2, e2, _, q2⟩ := hVs2.int k' (by omega)
        injection e2 with e2
        injection e2 with e3 e4
        subst e3 e4
        have := SF.inc k' hlt
        rw [show sup.getD k' 0 = sup[k'] by simp [List.getD_eq_getElem?_getD, List.getElem?_eq_getElem (show k' < sup.length by omega)]] at q2
        exact ⟨_, q2, by omega⟩
      rw [hr5] at HT
      rw [hr3] at qs
      clear hj hjx hr3 hr5
      have hxl := HXL.out
      have hyl := HYL.out
      obtain ⟨bx, ox, hA, hbx, qx⟩ := hVx2.bool r (by omega)
      subst hA
      have hal : (agreeY xs ys (sup.take k)).length = m := by rw [agreeY_length]; exact hyl
      obtain ⟨A9, c9, e9, hV9⟩ := hoy.vs
      obtain ⟨by', oy, hA, _, qy⟩ := hV9.bool r (by omega)
      simp only [Value.slice.injEq] at e9
      obtain ⟨rfl, -, -⟩ := e9
      subst hA
      have hset := hoy.set r (by simp; omega) (.bool (xs.getD r false))
      obtain ⟨ho2, hby, hfz⟩ := hset
      have ho3 : OwnV (wr.setCell ⟨by', oy + r, none⟩ (.bool (xs.getD r false))) wa.heap.size 4 (.slice (some ⟨by', oy, none⟩) ys.length cy) (bv (agreeY xs ys (sup.take (k + 1)))) := by
        rw [HT.out, bv, List.map_set]
        exact ho2
      have lw3 : Below wa.heap.size wa (wr.setCell ⟨by', oy + r, none⟩ (.bool (xs.getD r false))) := lw.setCell hby _
      have hix2 := ixB bx ox xs.length cx r (by omega) (by omega)
      have hix3 := ixB by' oy ys.length cy r (by omega) (by omega)
      have HD := Lib.hid (show ¬ ((m : Int) < (r : Int) + 1) by omega)
      clear ho2 hV9 hal hVx2 hVs2 HT hxl hyl
      generalize xs.getD r false = xb at *
      have hd1 : decide ((r : Int) + 1 < 1) = false := by simp; omega
      have hd2 : decide ((m : Int) < (r : Int) + 1) = false := by simp; omega
      have hwr : IntKind.i64.wrap ((r : Int) + 1 - 1) = (r : Int) := by rw [IntKind.wrap_i64]; omega
      have hwr2 : IntKind.i64.wrap (r : Int) = (r : Int) := by rw [IntKind.wrap_i64]; omega
      go_upto_region 10 with fail
      go_cut [75] from 46 to 75 (fun s wx => s = .bool false ∧ ∃ nq, wx = wr.drewN nq)
      case first =>
        cases k with
        | zero =>
          clear hpr
          simp only [Int.natCast_zero, Nat.add_zero] at hix qs
          go_quiet (fail)
          go_wp2
          go_meet
          case rel => exact ⟨rfl, _, rfl⟩
        | succ k' =>
          obtain ⟨q, hq, hq2⟩ := hpr k' rfl
          clear hpr
          have hix0 := ixI bs os sup.length cs k' (by omega) (by omega)
          have hd3 : decide ((r : Int) + 1 ≤ q) = false := by simp; omega
          go_quiet (fail)
          go_wp2
          go_meet
          case rel => exact ⟨rfl, _, rfl⟩
      case rest =>
        obtain ⟨rfl, nq, rfl⟩ := hcut
        clear hpr
        have hneb : bs ≠ by' := by omega
        have hneb2 : bx ≠ by' := by omega
        go_upto_region 12 with fail
        go_region_held3 (fun W => W.cell? ⟨bs, os + k, none⟩ = some (.int .i64 ((r : Int) + 1)) ∧ W.cell? ⟨bx, ox + r, none⟩ = some (.bool xb))
          (first | exact ⟨qs, qx⟩ | exact ⟨(World.cell?_setCell_other _ _ _ _ (by simp <;> omega)).trans qs, (World.cell?_setCell_other _ _ _ _ (by simp <;> omega)).trans qx⟩)
          (fail)
        go_wp2_with fail
        go_roundw
        case rel => exact ⟨k + 1, by omega, by go_num, OwnV.below (w := wr.setCell ⟨by', oy + r, none⟩ (.bool xb)) ho3 (below_drewN (Below.refl _ _) (nq + 1)), below_drewN lw3 (nq + 1)⟩
        case measure => simp [intOf]; omega
    · obtain rfl : k = sup.length := by omega
      rw [List.take_length] at hoy
      obtain ⟨A9, c9, e9, hV9⟩ := hoy.vs
      simp only [Value.slice.injEq] at e9
      obtain ⟨rfl, e8, e7⟩ := e9
      subst e7
      rw [List.length_map, agreeY_length] at e8
      have hxl := HXL.out
      have hyl := HYL.out
      have lo2 := lo.trans (lw.mono lo.size)
      have HEX := Lib.hid (fun V h q => refEval_any m A c gs last Ax cx xs V (by omega) (by omega) h hwf q (by have := lit_facts hlit; omega))
      have HEY := Lib.hid (fun V h q => refEval_any m A c gs last Ay cy (agreeY xs ys sup) V (by omega) (by rw [agreeY_length]; omega) h hwf q (by have := lit_facts hlit; omega))
      rw [HAG.out xs ys hxl hyl, agreeY_length] at HEY
      have HGT := Lib.hid (fun V h => countgates_any m A c gs last V (by omega) h hwf)
      have hgle := gatesS_le (n := m) (gs := gs) (l := last)
      generalize Cm.gatesS m gs last = z at *
      generalize Em.evalB m gs last xs = s at *
      have hdz : decide (z ≤ (gs.length : Int)) = true := by simpa using hgle
      have hVx3 := hVx2.more lw.size
      clear e8 hxl hyl
      go_upto_region 13 with fail
      have lx := (Below.refl wr.heap.size wr).drew
      go_region_held3 (fun W => W.cell? ⟨w1.heap.size, 0, none⟩ = some (.int .i64 m) ∧ W.cell? ⟨w1.heap.size, 1, none⟩ = some (.slice A gs.length c))
        (exact ⟨(g1.below lx).c0, (g1.below lx).c1⟩)
        (first | (go_at_call 12; (with_reducible refine (HEX.out _ (g1.below lx).gr ((hVx3.below lx (Nat.le_refl _)).more lx.size)).mono ?_); rintro e wn ⟨rfl, hbn⟩; replace lx := lx.trans (hbn.mono lx.size))
               | (go_at_call 12; (with_reducible refine (HEY.out _ (g1.below lx).gr ((hV9.below lx (Nat.le_refl _)).more lx.size)).mono ?_); rintro e wn ⟨rfl, hbn⟩; replace lx := lx.trans (hbn.mono lx.size))
               | (go_at_call 13; (with_reducible refine (HGT.out _ (g1.below lx).gr).mono ?_); rintro e wn ⟨rfl, hbn⟩; replace lx := lx.trans (hbn.mono lx.size)))
      go_wp2_with fail
      go_ret
      exact ⟨rfl, lo2.trans (lx.mono lo2.size)⟩
end Go.Proofs.Yteknkaodogbaaaa
