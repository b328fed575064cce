/- ConeFix, walked. -/
import Derived.Test.YteknkaodogbaaaaCL
namespace Go.Proofs.Yteknkaodogbaaaa
open Go.RowKit

/-- What is known of a fixed literal. -/
structure FixF (m : Nat) (gs : List (Int × Int)) (l : Int) (x : Nat) (b : Bool) (t : List (Int × Int)) (z : Int) : Prop where
  right : Gm.rightB m t = true
  lit : Gm.litB m t.length z = true
  grow : t.length ≤ gs.length + gs.length
  wf : Wf t
  val : ∀ v : List Bool, v.length = m → Em.evalB m t z v = Em.evalB m gs l (v.set (x - 1) b)
  sub : ∀ i, 1 ≤ i → i ≤ m → Cm.InC m t i (Cm.vr z) → i ≠ x ∧ Cm.InC m gs i (Cm.vr l)
theorem right_wf {n : Int} {gs : List (Int × Int)} (h : Gm.rightB n gs = true) : Wf gs := by
  have hr := right_facts h
  intro g hg
  obtain ⟨k, hk, rfl⟩ := List.getElem_of_mem hg
  have := Em.gate_low (Em.right_ord h) hk
  omega
theorem fix_facts {m : Nat} {gs : List (Int × Int)} {l : Int} {x : Nat} (b : Bool) (hr : Gm.rightB m gs = true) (hl : Gm.litB m gs.length l = true) (hroom : 1 + (m : Int) + gs.length + gs.length < 2000) (h1 : 1 ≤ x) (h2 : x ≤ m) :
    ∃ t z, Cm.fixS m gs l x b = (((m : Int), t), z, 0) ∧ FixF m gs l x b t z := by
  have hrf := right_facts hr
  have G := Cm.fix_good (x := x) hr hl hroom b
  have e := fixS_in (gs := gs) (l := l) (b := b) h1 h2 (by omega)
  have hv := fun v hv => Cm.fix_val G v hv
  have hs := fun i a b c => Cm.fix_sub G hr (z := i) a b c
  rw [e]
  generalize Cm.copyS m gs m gs l (Cm.fixBy m x b) = r at *
  obtain ⟨⟨n', t⟩, z, er⟩ := r
  obtain ⟨e1, e2, e3, e4, _, e5, _, _⟩ := G
  simp only at e1 e2 e3 e4 e5 hv hs
  subst e1 e2
  refine ⟨t, z, rfl, e3, e4, e5, right_wf e3, fun v h => ?_, hs⟩
  rw [Em.evalB_in e3 e4 (by omega), Em.evalB_in hr hl (by simp; omega)]
  rcases hv v h with h | h
  · exact h
  · omega
theorem fix_sup {m : Nat} {gs : List (Int × Int)} {l : Int} {x : Nat} {b : Bool} {t : List (Int × Int)} {z : Int} (h : FixF m gs l x b t z) : ∀ j ∈ supK m t z m, j ≠ (x : Int) := by
  intro j hj e
  obtain ⟨i, hi, rfl⟩ := List.mem_map.1 hj
  obtain ⟨h1, h2, h3⟩ := (Cm.mem_sup h.right h.lit i).1 hi
  exact (h.sub i h1 h2 h3).1 (by omega)

set_option maxRecDepth 100000 in
set_option maxHeartbeats 16000000 in
theorem coneFix_walk (a0 : Int) (A0 : Option Addr) (c0 : Nat) (zs : List Int) (a2 : Int) (b : Bool) (a4 : Int) (w : World) (h0 : 0 ≤ a0) (h0' : a0 ≤ 255) (hm : zs.length ≤ maxLen) (hU : Us w w.heap.size A0 zs) (h2 : 0 ≤ a2) (h2' : a2 ≤ 255) (h4 : 0 ≤ a4) (h4' : a4 ≤ 255) :
    Calls Try.prog 5 #[.int .u8 a0, .slice A0 zs.length c0, .int .u8 a2, .bool b, .int .u8 a4] w fun e w' => e = .returned (.bool true) ∧ Below w.heap.size w w' := by
  have HAW := Lib.hid (awake3_any w)
  have hnot : ∀ (x : Bool) (w : World), (Op.unary .not (.bool x)).run Try.prog w = .ok (.bool (!x)) w := fun _ _ => rfl
  have HMD := Lib.hid (fun V hV => made_any ((1 + a0 % 6)) A0 c0 zs V (by omega) (by omega) hm hV)
  clear hm
  go_enter Try.func5, Try.ntmps5
  go_wp2_with fail
  refine HAW.out.mono ?_
  rintro e w0 ⟨rfl, lo⟩
  go_wp2_with fail
  have hn0 : 0 ≤ (1 + a0 % 6) := by omega
  have hn6 : (1 + a0 % 6) ≤ 6 := by omega
  have hn1 : 1 ≤ (1 + a0 % 6) := by omega
  generalize (1 + a0 % 6) = n at *
  obtain ⟨m, rfl⟩ := Int.eq_ofNat_of_zero_le hn0
  refine (HMD.out w0 ((hU.below lo (Nat.le_refl _)).more lo.size)).mono ?_
  rintro e w1 ⟨A, c, gs, last, rfl, hG, hgood, hb1⟩
  have g0 := GX.new (n := (m : Int)) (c := c) (l := gs.length) hG 26
  replace lo := (lo.trans (hb1.mono lo.size)).alloc (Nat.le_trans lo.size hb1.size) (Obj.cells #[.int .i64 m, .slice A gs.length c] 26)
  obtain ⟨hr, hfew, hwf, hlit⟩ := hgood
  clear HMD hG hb1 HAW
  go_upto_region 5 with fail
  generalize w1.alloc (Obj.cells #[.int .i64 m, .slice A gs.length c] 26) = V at *
  have k0 := g0.c0
  have k1 := g0.c1
  obtain ⟨hr0, hr1, hr2, _⟩ := right_facts hr
  have hmz : ¬ (m : Int) = 0 := by omega
  have hq0 := Int.emod_nonneg a2 hmz
  have hq1 := Int.emod_lt_of_pos a2 (show (0 : Int) < m by omega)
  go_wp2_with fail
  generalize a2 % (m : Int) = q9 at *
  obtain ⟨q, rfl⟩ := Int.eq_ofNat_of_zero_le hq0
  obtain ⟨t, z, hfx, FF⟩ := fix_facts (x := q + 1) b hr hlit (by omega) (by omega) (by omega)
  rw [show ((q + 1 : Nat) : Int) = 1 + (q : Int) by omega] at hfx
  have HF := Lib.hid (fix_any m A c gs last (1 + (q : Int)) b V (by omega) g0.gr hwf)
  rw [hfx] at HF
  have HSX := Lib.hid (fix_sup FF)
  have HVA := Lib.hid FF.val
  have hrt := FF.right
  have hlt2 := FF.lit
  have hwt := FF.wf
  have hgt := FF.grow
  have hz := lit_facts hlt2
  have SF := sup_facts m t z
  have HSU := Lib.hid (fun V h => support_any m A c t z V (by omega) h hwt)
  clear hfx FF
  refine HF.out.mono ?_
  rintro e w2 ⟨At, ct, rfl, hG2, _, hb2⟩
  simp only
  have l2 := hb2.alloc hb2.size (Obj.cells #[.int .i64 m, .slice At t.length ct] 26)
  have j0 := GX.new (n := (m : Int)) (c := ct) (l := t.length) hG2 26
  replace g0 := g0.below l2
  replace lo := lo.trans (l2.mono lo.size)
  clear HF k0 k1 hb2 hG2 l2 HSU
  go_upto_region 7 with fail
  generalize w2.alloc (Obj.cells #[.int .i64 m, .slice At t.length ct] 26) = V2 at *
  have HSU := Lib.hid (support_any m At ct t z V2 (by omega) j0.gr hwt)
  rw [supportS_in hrt hlt2] at HSU
  have HML := Lib.hid (Nat.le_trans (supK_le m t z m) (show m ≤ 1000000 by omega))
  generalize supK m t z m = sup at *
  have k0 := j0.c0
  have k1 := j0.c1
  go_wp2_with fail
  refine HSU.out.mono ?_
  rintro e w3 ⟨As, cs, rfl, hVs, hb3⟩
  replace g0 := g0.below hb3
  replace j0 := j0.below hb3
  replace lo := lo.trans (hb3.mono lo.size)
  clear HSU k0 k1 hb3
  go_wp2_with fail
  go_loopw [11, 19] (fun ok i wr => ∃ k : Nat, k ≤ sup.length ∧ i = .int .i64 k ∧ ok = .bool true ∧ wr = w3) (fun _ i _ => sup.length - (intOf i).toNat)
  case atStart => exact ⟨0, Nat.zero_le _, rfl, rfl, rfl⟩
  case round =>
    obtain ⟨k, hkl, rfl, rfl, hw3⟩ := hrel
    subst wr
    have hml := HML.out
    by_cases hlt : k < sup.length
    · obtain ⟨bs, os, hA, _, qs⟩ := hVs.int k hlt
      subst hA
      have hjx : sup.getD k 0 = sup[k] := by simp [List.getD_eq_getElem?_getD, List.getElem?_eq_getElem hlt]
      have hne := HSX.out _ (List.getElem_mem hlt)
      rw [hjx] at qs
      have hix := ixI bs os sup.length cs k HML.out hlt
      generalize sup[k] = y at *
      have hnb : (y != 1 + (q : Int)) = true := by simp; omega
      go_wp2_with fail
      go_roundw
      case rel => exact ⟨k + 1, by omega, by go_num, rfl, trivial⟩
      case measure => simp [intOf]; omega
    · obtain rfl : k = sup.length := by omega
      have k0 := g0.c0
      have k1 := g0.c1
      go_wp2_with fail
      refine (bits_any a4 m w3 h4 (by omega) (by omega)).mono ?_
      rintro e w4 ⟨Av, cv, rfl, hVv, hb4⟩
      replace g0 := g0.below hb4
      replace j0 := j0.below hb4
      replace lo := lo.trans (hb4.mono lo.size)
      have hvl := bitsB_length a4 m
      generalize bitsB a4 m = vs at *
      have HVL := Lib.hid hvl
      have HI := Lib.hid (show vs.length = (bv vs).length by simp)
      have HL := Lib.hid (show ([] : List Value).length + (bv vs).length ≤ 2000000 by simp; omega)
      have O0 := OwnV.nil w4 w4.heap.size 4
      clear hvl k0 k1 hb4
      go_upto_region 14 with (at_builtin; go_loud (refine wpList_bools rfl (.const (.slice none 0 0)) (.tmp 72) rfl w4.heap.size _ _ [] (bv vs) rfl O0 _ _ _ rfl HI.out hVv (bv_one vs) HL.out (Nat.le_refl _) ?_); intro v' w5 hown' hgr' _)
      have hb5 : Below w4.heap.size w4 w5 := grown_low2 hgr' (fun k e => by cases e) (Nat.le_refl _)
      rw [List.nil_append] at hown'
      clear hgr' HI HL O0
      have hvl := HVL.out
      obtain ⟨Aw, cw, hvw, hVw⟩ := hown'.vs
      rw [List.length_map] at hvw
      subst hvw
      obtain ⟨bw, ow, hA, _, qw⟩ := hVw.bool q (by omega)
      subst hA
      obtain ⟨ho2, hbw, hfz⟩ := hown'.set q (by simp; omega) (.bool b)
      have hix := ixB bw ow vs.length cw q (by omega) (by omega)
      have hb6 : Below w4.heap.size w4 (w5.setCell ⟨bw, ow + q, none⟩ (.bool b)) := hb5.setCell hbw _
      have hqq : 1 + (q : Int) - 1 = (q : Int) := by omega
      go_upto_region 15 with fail
      have g6 := g0.below hb6
      have j6 := j0.below hb6
      have lo6 := lo.trans (hb6.mono lo.size)
      have hVv6 := (hVv.below hb6 (Nat.le_refl _)).more hb6.size
      obtain ⟨A9, c9, e9, hV9⟩ := ho2.vs
      simp only [Value.slice.injEq] at e9
      obtain ⟨rfl, e8, rfl⟩ := e9
      clear e8 hix qw hfz hVw hown' hb5 hb6 hbw g0 j0 lo hVv ho2
      generalize w5.setCell ⟨bw, ow + q, none⟩ (.bool b) = W6 at *
      have hV9' : Vs W6 W6.heap.size (some ⟨bw, ow, none⟩) (bv (vs.set q b)) := by rw [bv, List.map_set]; exact hV9
      have HEH := Lib.hid (fun V h p => refEval_any m At ct t z Av cv vs V (by omega) (by omega) h hwt p (by omega))
      have HEG := Lib.hid (fun V h p => refEval_any m A c gs last (some ⟨bw, ow, none⟩) cw (vs.set q b) V (by omega) (by simp; omega) h hwf p (by have := lit_facts hlit; omega))
      rw [HVA.out vs hvl] at HEH
      rw [List.length_set] at HEG
      simp only [Nat.add_sub_cancel] at HEH
      generalize Em.evalB m gs last (vs.set q b) = s at *
      clear hV9 hvl
      have lx := (Below.refl W6.heap.size W6).drew
      go_region_held3 (fun W => W.cell? ⟨w1.heap.size, 0, none⟩ = some (.int .i64 m) ∧ W.cell? ⟨w1.heap.size, 1, none⟩ = some (.slice A gs.length c) ∧ W.cell? ⟨w2.heap.size, 0, none⟩ = some (.int .i64 m) ∧ W.cell? ⟨w2.heap.size, 1, none⟩ = some (.slice At t.length ct))
        (exact ⟨(g6.below lx).c0, (g6.below lx).c1, (j6.below lx).c0, (j6.below lx).c1⟩)
        (first | (go_at_call 12; (with_reducible refine (HEH.out _ (j6.below lx).gr ((hVv6.below lx (Nat.le_refl _)).more lx.size)).mono ?_); rintro e wn ⟨rfl, hbn⟩; replace lx := lx.trans (hbn.mono lx.size))
               | (go_at_call 12; (with_reducible refine (HEG.out _ (g6.below lx).gr ((hV9'.below lx (Nat.le_refl _)).more lx.size)).mono ?_); rintro e wn ⟨rfl, hbn⟩; replace lx := lx.trans (hbn.mono lx.size)))
      go_wp2_with fail
      go_ret
      exact ⟨rfl, lo6.trans (lx.mono lo6.size)⟩
end Go.Proofs.Yteknkaodogbaaaa
