/- ConeTwice, walked. -/
import Derived.Test.YteknkaodogbaaaaLF
namespace Go.Proofs.Yteknkaodogbaaaa
open Go.RowKit

theorem twice_val {m : Nat} {gs t1 t2 t3 t4 : List (Int × Int)} {l z1 z2 z3 z4 : Int} {x y : Nat} {p q : Bool} (hx : 1 ≤ x) (hy : 1 ≤ y) (hne : x ≠ y) (F1 : FixF m gs l x p t1 z1) (F2 : FixF m t1 z1 y q t2 z2) (F3 : FixF m gs l y q t3 z3) (F4 : FixF m t3 z3 x p t4 z4) (v : List Bool) (hv : v.length = m) :
    Em.evalB m t2 z2 v = Em.evalB m t4 z4 v := by
  rw [F2.val v hv, F1.val _ (by simpa using hv), F4.val v hv, F3.val _ (by simpa using hv)]
  rw [List.set_comm _ _ (by omega)]
theorem twice_sup {m : Nat} {gs t1 t2 : List (Int × Int)} {l z1 z2 : Int} {x y : Nat} {p q : Bool} (hx : 1 ≤ x) (hx2 : x ≤ m) (hy : 1 ≤ y) (hy2 : y ≤ m) (hne : x ≠ y) (F1 : FixF m gs l x p t1 z1) (F2 : FixF m t1 z1 y q t2 z2) : (supK m t2 z2 m).length + 2 ≤ m := by
  have := Cm.sup_two F2.right F2.lit hne hx hx2 hy hy2 (fun h => (F1.sub x hx hx2 (F2.sub x hx hx2 h).2).1 rfl) (fun h => (F2.sub y hy hy2 h).1 rfl)
  rw [show (supK m t2 z2 m).length = (Cm.supS m t2 z2).length by unfold supK Cm.supS; rw [List.length_map]]
  exact this
/-- A graph is put into a box that is there. -/
theorem box_put {W : World} {k : Nat} {u0 u1 : Value} {n : Int} {A : Option Addr} {c lo : Nat} {gs : List (Int × Int)} (h : Blk W k 26 #[u0, u1]) (hG : Gr W W.heap.size A gs) (hs : Sep 0 lo A) (hk : k < lo) :
    Blk ((W.setCell ⟨k, 0, none⟩ (.int .i64 n)).setCell ⟨k, 1, none⟩ (.slice A gs.length c)) k 26 #[.int .i64 n, .slice A gs.length c] ∧ GX k n A c gs.length gs ((W.setCell ⟨k, 0, none⟩ (.int .i64 n)).setCell ⟨k, 1, none⟩ (.slice A gs.length c)) := by
  have hb : Blk ((W.setCell ⟨k, 0, none⟩ (.int .i64 n)).setCell ⟨k, 1, none⟩ (.slice A gs.length c)) k 26 #[.int .i64 n, .slice A gs.length c] := by
    have := (h.put 0 (.int .i64 n)).put 1 (.slice A gs.length c)
    simpa using this
  refine ⟨hb, hb.cell 0, hb.cell 1, hb.lt, ?_⟩
  have := (hG.set (p := ⟨k, 0, none⟩) (hs.ne (k := k) (Nat.zero_le _) hk) (.int .i64 n)).set (p := ⟨k, 1, none⟩) (hs.ne (k := k) (Nat.zero_le _) hk) (.slice A gs.length c)
  simpa using this

set_option maxRecDepth 100000 in
set_option maxHeartbeats 16000000 in
theorem coneTwice_walk (a0 : Int) (A0 : Option Addr) (c0 : Nat) (zs : List Int) (a2 a3 a4 a5 : Int) (w : World) (h0 : 0 ≤ a0) (h0' : a0 ≤ 255) (hm : zs.length ≤ maxLen) (hU : Us w w.heap.size A0 zs) (h2 : 0 ≤ a2) (h2' : a2 ≤ 255) (h3 : 0 ≤ a3) (h3' : a3 ≤ 255) (h4 : 0 ≤ a4) (h4' : a4 ≤ 255) (h5 : 0 ≤ a5) (h5' : a5 ≤ 255) :
    Calls Try.prog 7 #[.int .u8 a0, .slice A0 zs.length c0, .int .u8 a2, .int .u8 a3, .int .u8 a4, .int .u8 a5] w fun e w' => e = .returned (.bool true) ∧ Below w.heap.size w w' := by
  have HAW := Lib.hid (awake3_any w)
  have hnot : ∀ (x : Bool) (w : World), (Op.unary .not (.bool x)).run Try.prog w = .ok (.bool (!x)) w := fun _ _ => rfl
  have HMD := Lib.hid (fun V hV => made_any ((2 + a0 % 5)) A0 c0 zs V (by omega) (by omega) hm hV)
  clear hm
  go_enter Try.func7, Try.ntmps7
  go_wp2_with fail
  refine HAW.out.mono ?_
  rintro e w0 ⟨rfl, lo⟩
  go_wp2_with fail
  have hn0 : 0 ≤ (2 + a0 % 5) := by omega
  have hn6 : (2 + a0 % 5) ≤ 6 := by omega
  have hn1 : 2 ≤ (2 + a0 % 5) := by omega
  generalize (2 + a0 % 5) = n at *
  obtain ⟨m, rfl⟩ := Int.eq_ofNat_of_zero_le hn0
  refine (HMD.out w0 ((hU.below lo (Nat.le_refl _)).more lo.size)).mono ?_
  rintro e w1 ⟨A, c, gs, last, rfl, hG, hgood, hb1⟩
  have g0 := GX.new (n := (m : Int)) (c := c) (l := gs.length) hG 26
  replace lo := (lo.trans (hb1.mono lo.size)).alloc (Nat.le_trans lo.size hb1.size) (Obj.cells #[.int .i64 m, .slice A gs.length c] 26)
  obtain ⟨hr, hfew, hwf, hlit⟩ := hgood
  clear HMD hG hb1 HAW
  go_upto_region 5 with fail
  generalize w1.alloc (Obj.cells #[.int .i64 m, .slice A gs.length c] 26) = V at *
  have k0 := g0.c0
  have k1 := g0.c1
  obtain ⟨hr0, hr1, hr2, _⟩ := right_facts hr
  have hmz : ¬ (m : Int) = 0 := by omega
  have hp0 := Int.emod_nonneg a2 hmz
  have hp1 := Int.emod_lt_of_pos a2 (show (0 : Int) < m by omega)
  have hq0 := Int.emod_nonneg a3 hmz
  have hq1 := Int.emod_lt_of_pos a3 (show (0 : Int) < m by omega)
  go_quiet (fail)
  generalize a2 % (m : Int) = x9 at *
  generalize a3 % (m : Int) = y9 at *
  obtain ⟨x, rfl⟩ := Int.eq_ofNat_of_zero_le hp0
  obtain ⟨y, rfl⟩ := Int.eq_ofNat_of_zero_le hq0
  by_cases hxy : x = y
  · subst hxy
    have hb : ((1 : Int) + (x : Int) == 1 + (x : Int)) = true := by simp
    go_wp2_with fail
    go_ret
    exact ⟨rfl, below_drewN lo _⟩
  have hb : ((1 : Int) + (x : Int) == 1 + (y : Int)) = false := by simp; omega
  have hH := Lib.hid (fun (p q : Bool) => fix_facts (x := x + 1) p hr hlit (by omega) (by omega) (by omega))
  generalize hp : (a5 % 2 == 1) = p at *
  generalize hq : (a5 / 2 % 2 == 1) = q at *
  obtain ⟨t1, z1, hf1, F1⟩ := fix_facts (x := x + 1) p hr hlit (by omega) (by omega) (by omega)
  have gr1 := F1.grow
  obtain ⟨t2, z2, hf2, F2⟩ := fix_facts (x := y + 1) q F1.right F1.lit (by omega) (by omega) (by omega)
  obtain ⟨t3, z3, hf3, F3⟩ := fix_facts (x := y + 1) q hr hlit (by omega) (by omega) (by omega)
  have gr3 := F3.grow
  obtain ⟨t4, z4, hf4, F4⟩ := fix_facts (x := x + 1) p F3.right F3.lit (by omega) (by omega) (by omega)
  have gr2 := F2.grow
  have gr4 := F4.grow
  rw [show ((x + 1 : Nat) : Int) = 1 + (x : Int) by omega] at hf1 hf4
  rw [show ((y + 1 : Nat) : Int) = 1 + (y : Int) by omega] at hf2 hf3
  have HTV := Lib.hid (twice_val (by omega) (by omega) (by omega) F1 F2 F3 F4)
  have HTS := Lib.hid (twice_sup (by omega) (by omega) (by omega) (by omega) (by omega) F1 F2)
  have w1f := F1.wf
  have w2f := F2.wf
  have w3f := F3.wf
  have w4f := F4.wf
  have r2f := F2.right
  have l2f := F2.lit
  have zl2 := lit_facts F2.lit
  have zl4 := lit_facts F4.lit
  have HF1 := Lib.hid (fun V (h : Gr V V.heap.size A gs) => fix_any m A c gs last (1 + (x : Int)) p V (by omega) h hwf)
  have HF2 := Lib.hid (fun A c V (h : Gr V V.heap.size A t1) => fix_any m A c t1 z1 (1 + (y : Int)) q V (by omega) h w1f)
  have HF3 := Lib.hid (fun V (h : Gr V V.heap.size A gs) => fix_any m A c gs last (1 + (y : Int)) q V (by omega) h hwf)
  have HF4 := Lib.hid (fun A c V (h : Gr V V.heap.size A t3) => fix_any m A c t3 z3 (1 + (x : Int)) p V (by omega) h w3f)
  rw [hf1] at HF1
  rw [hf2] at HF2
  rw [hf3] at HF3
  rw [hf4] at HF4
  clear hf1 hf2 hf3 hf4 F1 F2 F3 F4 hH
  replace g0 := g0.below (below_drewN (Below.refl _ _) nq)
  replace lo := below_drewN lo nq
  clear k0 k1
  have k0 := g0.c0
  have k1 := g0.c1
  go_wp2_with fail
  refine (HF1.out _ g0.gr).mono ?_
  rintro e w2 ⟨A1, c1, rfl, hG1, _, hb2⟩
  simp only
  replace g0 := g0.below hb2
  replace lo := lo.trans (hb2.mono lo.size)
  have bk := Blk.new w2 26 #[.int .i64 m, .slice A1 t1.length c1]
  have j1 := GX.new (n := (m : Int)) (c := c1) (l := t1.length) hG1 26
  have lx := (Below.refl w2.heap.size w2).alloc (Nat.le_refl _) (Obj.cells #[.int .i64 m, .slice A1 t1.length c1] 26)
  clear HF1 k0 k1 hb2 hG1
  go_upto_region 12 with fail
  generalize w2.alloc (Obj.cells #[.int .i64 m, .slice A1 t1.length c1] 26) = V2 at *
  have k0 := j1.c0
  have k1 := j1.c1
  go_wp2_with fail
  refine (HF2.out _ _ _ j1.gr).mono ?_
  rintro e w3 ⟨A2, c2, rfl, hG2, hs2, hb3⟩
  simp only
  have hbk2 := bk.lt
  replace bk := bk.below hb3 bk.lt
  have B2 := box_put (n := (m : Int)) (c := c2) bk hG2 hs2 hbk2
  replace lx := ((lx.trans (hb3.mono lx.size)).setCell (p := ⟨w2.heap.size, 0, none⟩) (Nat.le_refl _) (.int .i64 m)).setCell (p := ⟨w2.heap.size, 1, none⟩) (Nat.le_refl _) (.slice A2 t2.length c2)
  have d0 := bk.cell 0
  have d1 := bk.cell 1
  have f0 := bk.frozen 0
  have f1 := bk.frozen 1
  simp only [List.getElem?_toArray, List.getElem?_cons_zero, List.getElem?_cons_succ] at d0 d1
  clear HF2 k0 k1 hG2 hs2 hb3 j1
  go_upto_region 13 with fail
  obtain ⟨bk2, j2⟩ := B2
  clear bk d0 d1 f0 f1
  generalize (w3.setCell ⟨w2.heap.size, 0, none⟩ (.int .i64 m)).setCell ⟨w2.heap.size, 1, none⟩ (.slice A2 t2.length c2) = W3 at *
  have g3 := g0.below lx
  have k0 := g3.c0
  have k1 := g3.c1
  go_wp2_with fail
  refine (HF3.out _ g3.gr).mono ?_
  rintro e w4 ⟨A3, c3, rfl, hG3, _, hb4⟩
  simp only
  replace j2 := j2.below hb4
  replace lx := lx.trans (hb4.mono lx.size)
  have bm := Blk.new w4 26 #[.int .i64 m, .slice A3 t3.length c3]
  have j3 := GX.new (n := (m : Int)) (c := c3) (l := t3.length) hG3 26
  have ly := (Below.refl w4.heap.size w4).alloc (Nat.le_refl _) (Obj.cells #[.int .i64 m, .slice A3 t3.length c3] 26)
  clear HF3 k0 k1 hb4 hG3 bk2 g3
  go_upto_region 14 with fail
  generalize w4.alloc (Obj.cells #[.int .i64 m, .slice A3 t3.length c3] 26) = V4 at *
  have k0 := j3.c0
  have k1 := j3.c1
  go_wp2_with fail
  refine (HF4.out _ _ _ j3.gr).mono ?_
  rintro e w5 ⟨A4, c4, rfl, hG4, hs4, hb5⟩
  simp only
  have hbm2 := bm.lt
  replace bm := bm.below hb5 bm.lt
  have B4 := box_put (n := (m : Int)) (c := c4) bm hG4 hs4 hbm2
  replace ly := ((ly.trans (hb5.mono ly.size)).setCell (p := ⟨w4.heap.size, 0, none⟩) (Nat.le_refl _) (.int .i64 m)).setCell (p := ⟨w4.heap.size, 1, none⟩) (Nat.le_refl _) (.slice A4 t4.length c4)
  have d0 := bm.cell 0
  have d1 := bm.cell 1
  have f0 := bm.frozen 0
  have f1 := bm.frozen 1
  simp only [List.getElem?_toArray, List.getElem?_cons_zero, List.getElem?_cons_succ] at d0 d1
  clear HF4 k0 k1 hG4 hs4 hb5 j3
  go_upto_region 17 with fail
  obtain ⟨_, j4⟩ := B4
  clear bm d0 d1 f0 f1
  generalize (w5.setCell ⟨w4.heap.size, 0, none⟩ (.int .i64 m)).setCell ⟨w4.heap.size, 1, none⟩ (.slice A4 t4.length c4) = W5 at *
  replace j2 := j2.below ly
  have g5 := (g0.below lx).below ly
  have lo5 := (lo.trans (lx.mono lo.size)).trans (ly.mono (Nat.le_trans lo.size lx.size))
  have k0 := g5.c0
  have k1 := g5.c1
  go_wp2_with fail
  refine (bits_any a4 m W5 h4 (by omega) (by omega)).mono ?_
  rintro e w6 ⟨Av, cv, rfl, hVv, hb6⟩
  replace j2 := j2.below hb6
  replace j4 := j4.below hb6
  replace g5 := g5.below hb6
  replace lo5 := lo5.trans (hb6.mono lo5.size)
  have hvl := bitsB_length a4 m
  generalize bitsB a4 m = vs at *
  have HE2 := Lib.hid (fun V h p => refEval_any m A2 c2 t2 z2 Av cv vs V (by omega) (by omega) h w2f p (by omega))
  have HE4 := Lib.hid (fun V h p => refEval_any m A4 c4 t4 z4 Av cv vs V (by omega) (by omega) h w4f p (by omega))
  rw [HTV.out vs hvl] at HE2
  have HSU := Lib.hid (fun V h => support_any m A2 c2 t2 z2 V (by omega) h w2f)
  rw [supportS_in r2f l2f] at HSU
  have hts := HTS.out
  generalize Em.evalB m t4 z4 vs = s at *
  generalize supK m t2 z2 m = sup at *
  have hwm : IntKind.i64.wrap ((m : Int) - 2) = (m : Int) - 2 := by rw [IntKind.wrap_i64]; omega
  have hd9 : decide ((sup.length : Int) ≤ (m : Int) - 2) = true := by simp; omega
  clear k0 k1 hvl hb6 lx ly g0 lo
  go_upto_region 18 with fail
  have lx := (Below.refl w6.heap.size w6).drew
  go_region_held3 (fun W => W.cell? ⟨w1.heap.size, 0, none⟩ = some (.int .i64 m) ∧ W.cell? ⟨w1.heap.size, 1, none⟩ = some (.slice A gs.length c) ∧ W.cell? ⟨w2.heap.size, 0, none⟩ = some (.int .i64 m) ∧ W.cell? ⟨w2.heap.size, 1, none⟩ = some (.slice A2 t2.length c2) ∧ W.cell? ⟨w4.heap.size, 0, none⟩ = some (.int .i64 m) ∧ W.cell? ⟨w4.heap.size, 1, none⟩ = some (.slice A4 t4.length c4))
    (exact ⟨(g5.below lx).c0, (g5.below lx).c1, (j2.below lx).c0, (j2.below lx).c1, (j4.below lx).c0, (j4.below lx).c1⟩)
    (first | (go_at_call 12; (with_reducible refine (HE2.out _ (j2.below lx).gr ((hVv.below lx (Nat.le_refl _)).more lx.size)).mono ?_); rintro e wn ⟨rfl, hbn⟩; replace lx := lx.trans (hbn.mono lx.size))
           | (go_at_call 12; (with_reducible refine (HE4.out _ (j4.below lx).gr ((hVv.below lx (Nat.le_refl _)).more lx.size)).mono ?_); rintro e wn ⟨rfl, hbn⟩; replace lx := lx.trans (hbn.mono lx.size))
           | (go_at_call 10; (with_reducible refine (HSU.out _ (j2.below lx).gr).mono ?_); rintro e wn ⟨As, cs, rfl, hVs, hbn⟩; replace lx := lx.trans (hbn.mono lx.size)))
  go_wp2_with fail
  go_ret
  exact ⟨rfl, lo5.trans (lx.mono lo5.size)⟩
end Go.Proofs.Yteknkaodogbaaaa
