/- The reference's Signal, Find, Is, After. -/
import Derived.Test.YtdbmepndebdbpaaGreatQao
namespace Go.Proofs.YtdbmepndebdbpaaGreat
open Go.RowKit

set_option maxRecDepth 100000 in
set_option maxHeartbeats 8000000 in
theorem refSignal_any (c : Cir) (k at_ : Int) (w : World) (hM : CirM w w.heap.size c) (hW : CirW c) (hk0 : 0 ≤ k) (hk1 : k ≤ 255) : Calls Tryz.prog 16 #[.agg #[.int .i64 c.n, .slice c.aL c.ls.length c.cL, .slice c.aG c.gs.length c.cG, .slice c.aO c.os.length c.cO, .slice c.aB c.bs.length c.cB, .slice c.aC c.cs.length c.cC, .slice c.aF c.fs.length c.cF, .slice c.aN c.ns.length c.cN], .int .u8 k, .int .i64 at_] w fun e w' => e = .returned (.int .i64 (Cm.signalS c k at_)) ∧ Below w.heap.size w w' := by
  have hbx := boxed w c
  have lo := lowAlloc w (Obj.cells #[.int .i64 c.n, .slice c.aL c.ls.length c.cL, .slice c.aG c.gs.length c.cG, .slice c.aO c.os.length c.cO, .slice c.aB c.bs.length c.cB, .slice c.aC c.cs.length c.cC, .slice c.aF c.fs.length c.cF, .slice c.aN c.ns.length c.cN] 28)
  have hnot : ∀ (x : Bool) (w : World), (Op.unary .not (.bool x)).run Tryz.prog w = .ok (.bool (!x)) w := fun _ _ => rfl
  have HR := Lib.hid (refRight4_any c _ ((hM.below lo (Nat.le_refl _)).more lo.size) hW)
  have HFT := Lib.hid (Cm.right_fits (c := c))
  have hss : Cm.signalS c k at_ = if Cm.rightC c = true then Cm.sigS c k at_ else -1 := rfl
  generalize Cm.signalS c k at_ = z at *
  generalize Cm.rightC c = t at *
  have HSS := Lib.hid hss
  clear hss
  have c0 := hbx.cell 0; have c1 := hbx.cell 1; have c2 := hbx.cell 2; have c3 := hbx.cell 3; have c4 := hbx.cell 4; have c5 := hbx.cell 5; have c6 := hbx.cell 6; have c7 := hbx.cell 7; simp only [List.getElem?_toArray, List.getElem?_cons_zero, List.getElem?_cons_succ] at c0 c1 c2 c3 c4 c5 c6 c7
  go_enter Tryz.func16, Tryz.ntmps16
  go_wp2_with fail
  refine HR.out.mono ?_
  rintro e w1 ⟨rfl, hb1⟩
  replace hbx := hbx.below hb1 hbx.lt
  replace lo := lo.trans (hb1.mono lo.size)
  clear c0 c1 c2 c3 c4 c5 c6 c7
  have c0 := hbx.cell 0; have c1 := hbx.cell 1; have c2 := hbx.cell 2; have c3 := hbx.cell 3; have c4 := hbx.cell 4; have c5 := hbx.cell 5; have c6 := hbx.cell 6; have c7 := hbx.cell 7; simp only [List.getElem?_toArray, List.getElem?_cons_zero, List.getElem?_cons_succ] at c0 c1 c2 c3 c4 c5 c6 c7
  clear HR
  cases t with
  | false =>
    go_wp2
    go_ret
    exact ⟨by rw [HSS.out]; rfl, lo⟩
  | true =>
    have hff := Cm.fits_facts (HFT.out rfl)
    clear HFT
    rw [if_pos rfl] at HSS
    by_cases h0 : at_ < 0
    · have HZ : Hid (z = -1) := by unfold Hid; rw [HSS.out, Cm.sigS, if_pos (Or.inl h0)]
      go_wp2
      go_ret
      exact ⟨by rw [HZ.out]; rfl, lo⟩
    · go_wp2_with fail
      refine (many_any c k w1).mono ?_
      rintro e w2 ⟨rfl, hb2⟩
      replace hbx := hbx.below hb2 hbx.lt
      replace lo := lo.trans (hb2.mono lo.size)
      clear c0 c1 c2 c3 c4 c5 c6 c7
      have c0 := hbx.cell 0; have c1 := hbx.cell 1; have c2 := hbx.cell 2; have c3 := hbx.cell 3; have c4 := hbx.cell 4; have c5 := hbx.cell 5; have c6 := hbx.cell 6; have c7 := hbx.cell 7; simp only [List.getElem?_toArray, List.getElem?_cons_zero, List.getElem?_cons_succ] at c0 c1 c2 c3 c4 c5 c6 c7
      by_cases h1 : Cm.numS c k ≤ at_
      · have HZ : Hid (z = -1) := by unfold Hid; rw [HSS.out, Cm.sigS, if_pos (Or.inr h1)]
        generalize Cm.numS c k = m at *
        go_wp2
        go_ret
        exact ⟨by rw [HZ.out]; rfl, lo⟩
      · by_cases hk105 : k = 105
        · subst hk105
          have hm : Cm.numS c 105 = c.n := rfl
          have HZ : Hid (z = 2 * (at_ + 1)) := by unfold Hid; rw [HSS.out, Cm.sigS, if_neg (by omega), if_pos rfl]
          rw [hm] at h1
          rw [hm]
          go_wp2
          go_ret
          exact ⟨by rw [HZ.out]; rfl, lo⟩
        by_cases hk108 : k = 108
        · subst hk108
          have hm : Cm.numS c 108 = (c.ls.length : Int) := rfl
          have HZ : Hid (z = 2 * (c.n + at_ + 1)) := by unfold Hid; rw [HSS.out, Cm.sigS, if_neg (by omega), if_neg (by omega), if_pos rfl]
          rw [hm] at h1
          rw [hm]
          go_wp2
          go_ret
          exact ⟨by rw [HZ.out]; rfl, lo⟩
        by_cases hk111 : k = 111
        · subst hk111
          have hm : Cm.numS c 111 = (c.os.length : Int) := rfl
          have hs : Cm.sigS c 111 at_ = if at_ < 0 ∨ Cm.numS c 111 ≤ at_ then -1 else c.os.getD at_.toNat 0 := rfl
          rw [if_neg (by omega)] at hs
          obtain ⟨r, rfl⟩ := Int.eq_ofNat_of_zero_le (show 0 ≤ at_ by omega)
          have hr : r < c.os.length := by omega
          rw [Int.toNat_natCast] at hs
          obtain ⟨b0, off, hA, hbw, hcell⟩ := hM.ho.int r hr
          have HZ := Lib.hid (HSS.out.trans hs)
          clear hs hm
          generalize c.os.getD r 0 = x at *
          have hix := ixI2 b0 off c.os.length c.cO r (by have := hW.lo; unfold maxLen at this; omega) hr
          have hc2 := (lo.cell (p := ⟨b0, off + r, none⟩) hbw).trans hcell
          rw [hA]
          rw [hA] at c3
          go_wp2
          go_ret
          exact ⟨by rw [HZ.out]; rfl, lo⟩
        by_cases hk98 : k = 98
        · subst hk98
          have hm : Cm.numS c 98 = (c.bs.length : Int) := rfl
          have hs : Cm.sigS c 98 at_ = if at_ < 0 ∨ Cm.numS c 98 ≤ at_ then -1 else c.bs.getD at_.toNat 0 := rfl
          rw [if_neg (by omega)] at hs
          obtain ⟨r, rfl⟩ := Int.eq_ofNat_of_zero_le (show 0 ≤ at_ by omega)
          have hr : r < c.bs.length := by omega
          rw [Int.toNat_natCast] at hs
          obtain ⟨b0, off, hA, hbw, hcell⟩ := hM.hb.int r hr
          have HZ := Lib.hid (HSS.out.trans hs)
          clear hs hm
          generalize c.bs.getD r 0 = x at *
          have hix := ixI2 b0 off c.bs.length c.cB r (by have := hW.lb; unfold maxLen at this; omega) hr
          have hc2 := (lo.cell (p := ⟨b0, off + r, none⟩) hbw).trans hcell
          rw [hA]
          rw [hA] at c4
          go_wp2
          go_ret
          exact ⟨by rw [HZ.out]; rfl, lo⟩
        by_cases hk99 : k = 99
        · subst hk99
          have hm : Cm.numS c 99 = (c.cs.length : Int) := rfl
          have hs : Cm.sigS c 99 at_ = if at_ < 0 ∨ Cm.numS c 99 ≤ at_ then -1 else c.cs.getD at_.toNat 0 := rfl
          rw [if_neg (by omega)] at hs
          obtain ⟨r, rfl⟩ := Int.eq_ofNat_of_zero_le (show 0 ≤ at_ by omega)
          have hr : r < c.cs.length := by omega
          rw [Int.toNat_natCast] at hs
          obtain ⟨b0, off, hA, hbw, hcell⟩ := hM.hc.int r hr
          have HZ := Lib.hid (HSS.out.trans hs)
          clear hs hm
          generalize c.cs.getD r 0 = x at *
          have hix := ixI2 b0 off c.cs.length c.cC r (by have := hW.lc; unfold maxLen at this; omega) hr
          have hc2 := (lo.cell (p := ⟨b0, off + r, none⟩) hbw).trans hcell
          rw [hA]
          rw [hA] at c5
          go_wp2
          go_ret
          exact ⟨by rw [HZ.out]; rfl, lo⟩
        by_cases hk102 : k = 102
        · subst hk102
          have hm : Cm.numS c 102 = (c.fs.length : Int) := rfl
          have hs : Cm.sigS c 102 at_ = if at_ < 0 ∨ Cm.numS c 102 ≤ at_ then -1 else c.fs.getD at_.toNat 0 := rfl
          rw [if_neg (by omega)] at hs
          obtain ⟨r, rfl⟩ := Int.eq_ofNat_of_zero_le (show 0 ≤ at_ by omega)
          have hr : r < c.fs.length := by omega
          rw [Int.toNat_natCast] at hs
          obtain ⟨b0, off, hA, hbw, hcell⟩ := hM.hf.int r hr
          have HZ := Lib.hid (HSS.out.trans hs)
          clear hs hm
          generalize c.fs.getD r 0 = x at *
          have hix := ixI2 b0 off c.fs.length c.cF r (by have := hW.lf; unfold maxLen at this; omega) hr
          have hc2 := (lo.cell (p := ⟨b0, off + r, none⟩) hbw).trans hcell
          rw [hA]
          rw [hA] at c6
          go_wp2
          go_ret
          exact ⟨by rw [HZ.out]; rfl, lo⟩
        exfalso
        have hz : Cm.numS c k = 0 := by simp [Cm.numS, Cm.lstS, hk105, hk108, hk111, hk98, hk99, hk102]
        omega

set_option maxRecDepth 100000 in
set_option maxHeartbeats 4000000 in
theorem bits60_any (n : Int) (m : Nat) (w : World) (hn : I64 n) (hm : m ≤ 60) :
    Calls Tryz.prog 42 #[.int .i64 n, .int .i64 m] w (BList (bitsB n m) w) := by
  have HN0 := Lib.hid hn
  go_enter Tryz.func42, Tryz.ntmps42
  go_wp2_with fail
  go_loopw [5, 6] (fun v i wr => ∃ k : Nat, k ≤ m ∧ i = .int .i64 k ∧ RowInv w wr 4 v (bv (bitsB n k))) (fun _ i _ => m - (intOf i).toNat)
  case atStart => exact ⟨0, Nat.zero_le _, rfl, Below.refl _ _, OwnV.nil _ _ _⟩
  case round =>
    obtain ⟨k, hkl, rfl, hinv⟩ := hrel
    by_cases hlt : k < m
    · have hsz := hinv.size
      have hown := hinv.own
      have hlen : (bv (bitsB n k)).length = k := by simp [bitsB_length]
      have hband := bitAnd_any (n / 2 ^ k) (shr_range n k HN0.out)
      have HL := Lib.hid (show (bv (bitsB n k)).length + [Value.bool (n / 2 ^ k % 2 == 1)].length ≤ 2000000 by rw [hlen]; simp; omega)
      clear hlen
      go_wp2_with (at_builtin; go_loud (refine wpList_bools rfl (.tmp 12) (.tmp 18) rfl w.heap.size _ _ (bv (bitsB n k)) [.bool (n / 2 ^ k % 2 == 1)] rfl (hown.alloc _) _ _ _ rfl rfl (vs_one _ _ _) (fun u hu => by simp at hu; subst hu; rfl) HL.out (by simp; omega) ?_); intro v' w' hown' hgr' _)
      go_roundw
      case rel => exact ⟨k + 1, by omega, by go_num, hinv.next (by rw [bitsB_succ, bv, List.map_append]; exact hown') hgr'⟩
      case measure => simp [intOf]; omega
    · have hkk : k = m := by omega
      subst hkk
      obtain ⟨A, c, rfl, hV⟩ := hinv.own.vs
      have lo := hinv.low
      go_wp2_with fail
      go_ret
      exact ⟨A, c, by simp, hV, lo⟩

set_option maxRecDepth 100000 in
set_option maxHeartbeats 8000000 in
theorem refIs_any (c : Cir) (st l : Int) (w : World) (hM : CirM w w.heap.size c) (hW : CirW c) (hs : I64 st) (hl : I64 l) (hlg : c.gs.length ≤ 100000) : Calls Tryz.prog 20 #[.agg #[.int .i64 c.n, .slice c.aL c.ls.length c.cL, .slice c.aG c.gs.length c.cG, .slice c.aO c.os.length c.cO, .slice c.aB c.bs.length c.cB, .slice c.aC c.cs.length c.cC, .slice c.aF c.fs.length c.cF, .slice c.aN c.ns.length c.cN], .int .i64 st, .int .i64 l] w fun e w' => e = .returned (.bool (Cm.isS c st l)) ∧ Below w.heap.size w w' := by
  have hnot : ∀ (x : Bool) (w : World), (Op.unary .not (.bool x)).run Tryz.prog w = .ok (.bool (!x)) w := fun _ _ => rfl
  have hfd := field_graph
  have hbx := boxed w c
  have lo := lowAlloc w (Obj.cells #[.int .i64 c.n, .slice c.aL c.ls.length c.cL, .slice c.aG c.gs.length c.cG, .slice c.aO c.os.length c.cO, .slice c.aB c.bs.length c.cB, .slice c.aC c.cs.length c.cC, .slice c.aF c.fs.length c.cF, .slice c.aN c.ns.length c.cN] 28)
  have HR := Lib.hid (refRight4_any c _ ((hM.below lo (Nat.le_refl _)).more lo.size) hW)
  have HFT := Lib.hid (Cm.right_fits (c := c))
  have HWP := Lib.hid (fun h => Cm.wrapW (Cm.right_fits (c := c) h))
  have hss : Cm.isS c st l = ((Cm.rightC c && decide (c.n + c.ls.length ≤ 60)) && Em.evalB (c.n + c.ls.length) c.gs l (bitsB st (c.n + c.ls.length).toNat)) := rfl
  generalize Cm.isS c st l = z at *
  generalize Cm.rightC c = t at *
  have HSS := Lib.hid hss
  clear hss
  have c0 := hbx.cell 0; have c1 := hbx.cell 1; have c2 := hbx.cell 2; have c3 := hbx.cell 3; have c4 := hbx.cell 4; have c5 := hbx.cell 5; have c6 := hbx.cell 6; have c7 := hbx.cell 7; simp only [List.getElem?_toArray, List.getElem?_cons_zero, List.getElem?_cons_succ] at c0 c1 c2 c3 c4 c5 c6 c7
  go_enter Tryz.func20, Tryz.ntmps20
  go_wp2_with fail
  refine HR.out.mono ?_
  rintro e w1 ⟨rfl, hb1⟩
  replace hbx := hbx.below hb1 hbx.lt
  replace lo := lo.trans (hb1.mono lo.size)
  clear c0 c1 c2 c3 c4 c5 c6 c7
  have c0 := hbx.cell 0; have c1 := hbx.cell 1; have c2 := hbx.cell 2; have c3 := hbx.cell 3; have c4 := hbx.cell 4; have c5 := hbx.cell 5; have c6 := hbx.cell 6; have c7 := hbx.cell 7; simp only [List.getElem?_toArray, List.getElem?_cons_zero, List.getElem?_cons_succ] at c0 c1 c2 c3 c4 c5 c6 c7
  clear HR
  cases t with
  | false =>
    go_wp2
    go_ret
    exact ⟨by rw [HSS.out]; rfl, lo⟩
  | true =>
    have hff := Cm.fits_facts (HFT.out rfl)
    have hwp := HWP.out rfl
    have HOF := Lib.hid (fun V => refOf_any c V)
    rw [hwp] at HOF
    obtain ⟨m, hm⟩ := Int.eq_ofNat_of_zero_le (show 0 ≤ c.n + c.ls.length by omega)
    rw [hm] at HOF HSS
    rw [Int.toNat_natCast] at HSS
    simp only [Bool.true_and] at HSS
    clear HFT HWP hwp hff hm
    go_wp2_with fail
    refine (HOF.out _).mono ?_
    rintro e W ⟨rfl, hb2⟩
    replace hbx := hbx.below hb2 hbx.lt
    replace lo := lo.trans (hb2.mono lo.size)
    clear c0 c1 c2 c3 c4 c5 c6 c7
    have hM1 := (hM.below lo (Nat.le_refl _)).more lo.size
    clear hb2
    by_cases h60 : 60 < m
    · have HZ : Hid (z = false) := by
        unfold Hid
        rw [HSS.out, decide_eq_false (by omega)]
        rfl
      have dd : decide ((60 : Int) < (m : Int)) = true := decide_eq_true (by omega)
      go_wp2
      go_ret
      exact ⟨by rw [HZ.out]; rfl, lo⟩
    · have dd : decide ((60 : Int) < (m : Int)) = false := decide_eq_false (by omega)
      rw [decide_eq_true (by omega), Bool.true_and] at HSS
      have HBI := Lib.hid (fun V => bits60_any st m V hs (by omega))
      have hbl := bitsB_length st m
      have HEV := Lib.hid (fun V A q (hb : Below W.heap.size W V) (hV : Vs V V.heap.size A (bv (bitsB st m))) => refEval_any (m : Int) c.aG c.cG c.gs l A q (bitsB st m) V hlg (by rw [hbl]; omega) ((hM1.hg.below hb (Nat.le_refl _)).more hb.size) hW.hg hV hl.2)
      have HK : Hid (∀ V, Below W.heap.size W V → (fun V => V.cell? ⟨w.heap.size, 0, none⟩ = some (.int .i64 c.n) ∧ V.cell? ⟨w.heap.size, 1, none⟩ = some (.slice c.aL c.ls.length c.cL) ∧ V.cell? ⟨w.heap.size, 2, none⟩ = some (.slice c.aG c.gs.length c.cG) ∧ V.cell? ⟨w.heap.size, 3, none⟩ = some (.slice c.aO c.os.length c.cO) ∧ V.cell? ⟨w.heap.size, 4, none⟩ = some (.slice c.aB c.bs.length c.cB) ∧ V.cell? ⟨w.heap.size, 5, none⟩ = some (.slice c.aC c.cs.length c.cC) ∧ V.cell? ⟨w.heap.size, 6, none⟩ = some (.slice c.aF c.fs.length c.cF) ∧ V.cell? ⟨w.heap.size, 7, none⟩ = some (.slice c.aN c.ns.length c.cN)) V) := by
        intro V hb
        have h := hbx.below hb hbx.lt
        exact ⟨h.cell 0, h.cell 1, h.cell 2, h.cell 3, h.cell 4, h.cell 5, h.cell 6, h.cell 7⟩
      have lx := Below.refl W.heap.size W
      clear hbl hM1 hbx
      generalize bitsB st m = bs at *
      generalize Em.evalB (m : Int) c.gs l bs = y at *
      go_upto_region 3 with fail
      go_region_held3 (fun V => V.cell? ⟨w.heap.size, 0, none⟩ = some (.int .i64 c.n) ∧ V.cell? ⟨w.heap.size, 1, none⟩ = some (.slice c.aL c.ls.length c.cL) ∧ V.cell? ⟨w.heap.size, 2, none⟩ = some (.slice c.aG c.gs.length c.cG) ∧ V.cell? ⟨w.heap.size, 3, none⟩ = some (.slice c.aO c.os.length c.cO) ∧ V.cell? ⟨w.heap.size, 4, none⟩ = some (.slice c.aB c.bs.length c.cB) ∧ V.cell? ⟨w.heap.size, 5, none⟩ = some (.slice c.aC c.cs.length c.cC) ∧ V.cell? ⟨w.heap.size, 6, none⟩ = some (.slice c.aF c.fs.length c.cF) ∧ V.cell? ⟨w.heap.size, 7, none⟩ = some (.slice c.aN c.ns.length c.cN))
        (first | exact HK.out _ lx | exact HK.out _ lx.drew)
        (first | (go_at_call 14; (with_reducible refine (HOF.out _).mono ?_); rintro e w2 ⟨rfl, hb2⟩; (first | replace lx := lx.trans (hb2.mono lx.size) | replace lx := lx.drew.trans (hb2.mono lx.size)); (try replace hV := (hV.below hb2 (Nat.le_refl _)).more hb2.size)) | (go_at_call 42; (with_reducible refine (HBI.out _).mono ?_); rintro e w3 ⟨A', q', rfl, hV, hb3⟩; (first | replace lx := lx.trans (hb3.mono lx.size) | replace lx := lx.drew.trans (hb3.mono lx.size))) | (go_at_call 41; (with_reducible refine (HEV.out _ _ _ lx hV).mono ?_); rintro e w4 ⟨rfl, hb4⟩; replace lx := lx.trans (hb4.mono lx.size)))
      all_goals go_wp2
      all_goals go_ret
      all_goals exact ⟨by rw [HSS.out]; rfl, lo.trans (lx.mono lo.size)⟩

set_option maxRecDepth 100000 in
set_option maxHeartbeats 8000000 in
theorem refAfter_any (c : Cir) (st : Int) (w : World) (hM : CirM w w.heap.size c) (hW : CirW c) (hs : I64 st) (hlg : c.gs.length ≤ 100000) : Calls Tryz.prog 22 #[.agg #[.int .i64 c.n, .slice c.aL c.ls.length c.cL, .slice c.aG c.gs.length c.cG, .slice c.aO c.os.length c.cO, .slice c.aB c.bs.length c.cB, .slice c.aC c.cs.length c.cC, .slice c.aF c.fs.length c.cF, .slice c.aN c.ns.length c.cN], .int .i64 st] w fun e w' => e = .returned (.int .i64 (Cm.afterS c st)) ∧ Below w.heap.size w w' := by
  have hnot : ∀ (x : Bool) (w : World), (Op.unary .not (.bool x)).run Tryz.prog w = .ok (.bool (!x)) w := fun _ _ => rfl
  have hfd := field_graph
  have hbx := boxed w c
  have lo := lowAlloc w (Obj.cells #[.int .i64 c.n, .slice c.aL c.ls.length c.cL, .slice c.aG c.gs.length c.cG, .slice c.aO c.os.length c.cO, .slice c.aB c.bs.length c.cB, .slice c.aC c.cs.length c.cC, .slice c.aF c.fs.length c.cF, .slice c.aN c.ns.length c.cN] 28)
  have HR := Lib.hid (refRight4_any c _ ((hM.below lo (Nat.le_refl _)).more lo.size) hW)
  have HFT := Lib.hid (Cm.right_fits (c := c))
  have HWP := Lib.hid (fun h => Cm.wrapW (Cm.right_fits (c := c) h))
  have hss : Cm.afterS c st = if (Cm.rightC c && decide (c.n + c.ls.length ≤ 60)) = true then (Cm.aftS c st c.ls.length : Int) else 0 := rfl
  generalize Cm.afterS c st = z at *
  generalize Cm.rightC c = t at *
  have HSS := Lib.hid hss
  clear hss
  have c0 := hbx.cell 0; have c1 := hbx.cell 1; have c2 := hbx.cell 2; have c3 := hbx.cell 3; have c4 := hbx.cell 4; have c5 := hbx.cell 5; have c6 := hbx.cell 6; have c7 := hbx.cell 7; simp only [List.getElem?_toArray, List.getElem?_cons_zero, List.getElem?_cons_succ] at c0 c1 c2 c3 c4 c5 c6 c7
  go_enter Tryz.func22, Tryz.ntmps22
  go_wp2_with fail
  refine HR.out.mono ?_
  rintro e w1 ⟨rfl, hb1⟩
  replace hbx := hbx.below hb1 hbx.lt
  replace lo := lo.trans (hb1.mono lo.size)
  clear c0 c1 c2 c3 c4 c5 c6 c7
  have c0 := hbx.cell 0; have c1 := hbx.cell 1; have c2 := hbx.cell 2; have c3 := hbx.cell 3; have c4 := hbx.cell 4; have c5 := hbx.cell 5; have c6 := hbx.cell 6; have c7 := hbx.cell 7; simp only [List.getElem?_toArray, List.getElem?_cons_zero, List.getElem?_cons_succ] at c0 c1 c2 c3 c4 c5 c6 c7
  clear HR
  cases t with
  | false =>
    go_wp2
    go_ret
    exact ⟨by rw [HSS.out]; rfl, lo⟩
  | true =>
    have hff := Cm.fits_facts (HFT.out rfl)
    have hwp := HWP.out rfl
    have HOF := Lib.hid (fun V => refOf_any c V)
    rw [hwp] at HOF
    obtain ⟨m, hm⟩ := Int.eq_ofNat_of_zero_le (show 0 ≤ c.n + c.ls.length by omega)
    obtain ⟨n0, hn0⟩ := Int.eq_ofNat_of_zero_le (show 0 ≤ c.n by omega)
    rw [hm] at HOF HSS
    simp only [Bool.true_and] at HSS
    have hnm : n0 + c.ls.length = m := by omega
    have HNM := Lib.hid hnm
    have HN0 := Lib.hid hn0
    have hll : c.ls.length ≤ 2000 := by omega
    clear HFT HWP hwp hff hm hnm hn0
    go_wp2_with fail
    refine (HOF.out _).mono ?_
    rintro e W ⟨rfl, hb2⟩
    replace hbx := hbx.below hb2 hbx.lt
    replace lo := lo.trans (hb2.mono lo.size)
    clear c0 c1 c2 c3 c4 c5 c6 c7
    clear hb2
    by_cases h60 : 60 < m
    · have HZ : Hid (z = 0) := by
        unfold Hid
        rw [HSS.out, if_neg]
        simp
        omega
      have dd : decide ((60 : Int) < (m : Int)) = true := decide_eq_true (by omega)
      go_wp2
      go_ret
      exact ⟨by rw [HZ.out]; rfl, lo⟩
    · have dd : decide ((60 : Int) < (m : Int)) = false := decide_eq_false (by omega)
      have HZ : Hid (z = (Cm.aftS c st c.ls.length : Int)) := by
        unfold Hid
        rw [HSS.out, if_pos]
        simp
        omega
      have HLO := Lib.hid lo
      have HBX := Lib.hid hbx
      clear lo hbx HSS
      go_wp2
      clear dd
      go_loopw [5, 6] (fun a i wr => ∃ k : Nat, k ≤ c.ls.length ∧ i = .int .i64 k ∧ a = .int .i64 (Cm.aftS c st k : Int) ∧ Below w.heap.size w wr ∧ Blk wr w.heap.size 28 #[.int .i64 c.n, .slice c.aL c.ls.length c.cL, .slice c.aG c.gs.length c.cG, .slice c.aO c.os.length c.cO, .slice c.aB c.bs.length c.cB, .slice c.aC c.cs.length c.cC, .slice c.aF c.fs.length c.cF, .slice c.aN c.ns.length c.cN]) (fun _ i _ => c.ls.length - (intOf i).toNat)
      case atStart => exact ⟨0, Nat.zero_le _, rfl, rfl, HLO.out, HBX.out⟩
      case round =>
        obtain ⟨k, hk, rfl, rfl, lo, hbx⟩ := hrel
        by_cases hlt : k < c.ls.length
        · obtain ⟨b, off, hA, hbw, g1, g2⟩ := (hM.hl.below lo (Nat.le_refl _)) k hlt
          have hwk := hW.hl c.ls[k] (by simp)
          have hgd : c.ls.getD k (0, 0) = c.ls[k] := by simp [List.getD_eq_getElem?_getD, List.getElem?_eq_getElem hlt]
          have HAS : Hid (Cm.aftS c st (k + 1) = Cm.aftS c st k + (if Cm.isS c st c.ls[k].1 = true then 2 ^ (c.n.toNat + k) else 0)) := by
            unfold Hid
            rw [Cm.aftS, hgd]
          have hal := Cm.aft_lt c st k
          rw [HN0.out, Int.toNat_natCast] at hal HAS
          have HIS := Lib.hid (fun V (hb : Below w.heap.size w V) => refIs_any c st c.ls[k].1 V ((hM.below hb (Nat.le_refl _)).more hb.size) hW hs hwk.1 hlg)
          have hnmo := HNM.out
          have hpow : 2 ^ (n0 + k) ≤ 2 ^ 60 := Nat.pow_le_pow_right (by omega) (by omega)
          have hix := ixL b off c.ls.length c.cL k (by omega) hlt
          clear hgd hwk
          rw [hA]
          rw [hA] at hbx HIS
          rw [HN0.out] at HIS
          clear hA
          generalize c.ls[k] = g at *
          obtain ⟨x, y⟩ := g
          simp only at g1 g2 HAS HIS
          obtain ⟨a2, ha2⟩ : ∃ a2, a2 = Cm.aftS c st (k + 1) := ⟨_, rfl⟩
          rw [← ha2] at HAS
          have HA2 := Lib.hid ha2
          have hw : wrap64 ((2 : Int) ^ (n0 + k)) = ((2 ^ (n0 + k) : Nat) : Int) := by
            have e : ((2 ^ (n0 + k) : Nat) : Int) = (2 : Int) ^ (n0 + k) := by simp
            rw [← e]
            unfold wrap64
            omega
          have HWR := Lib.hid hw
          have hnk : n0 + k ≤ 60 := by omega
          clear hw ha2 hnmo
          generalize Cm.aftS c st k = a1 at *
          generalize Cm.isS c st x = t at *
          have lx := Below.refl wr.heap.size wr
          have c1 := hbx.cell 1
          simp only [List.getElem?_toArray, List.getElem?_cons_zero, List.getElem?_cons_succ] at c1
          have HK : Hid (∀ V, Below wr.heap.size wr V → (fun V => V.cell? ⟨w.heap.size, 0, none⟩ = some (.int .i64 (n0 : Int)) ∧ V.cell? ⟨w.heap.size, 1, none⟩ = some (.slice (some ⟨b, off, none⟩) c.ls.length c.cL) ∧ V.cell? ⟨w.heap.size, 2, none⟩ = some (.slice c.aG c.gs.length c.cG) ∧ V.cell? ⟨w.heap.size, 3, none⟩ = some (.slice c.aO c.os.length c.cO) ∧ V.cell? ⟨w.heap.size, 4, none⟩ = some (.slice c.aB c.bs.length c.cB) ∧ V.cell? ⟨w.heap.size, 5, none⟩ = some (.slice c.aC c.cs.length c.cC) ∧ V.cell? ⟨w.heap.size, 6, none⟩ = some (.slice c.aF c.fs.length c.cF) ∧ V.cell? ⟨w.heap.size, 7, none⟩ = some (.slice c.aN c.ns.length c.cN)) V ∧ V.cell? ⟨b, off + k * 2, none⟩ = some (.int .i64 x)) := by
            intro V hb
            have h := hbx.below hb hbx.lt
            exact ⟨⟨(h.cell 0).trans (by rw [HN0.out]; rfl), h.cell 1, h.cell 2, h.cell 3, h.cell 4, h.cell 5, h.cell 6, h.cell 7⟩, (hb.cell (p := ⟨b, _, none⟩) (Nat.lt_of_lt_of_le hbw lo.size)).trans g1⟩
          go_upto_region 7 with fail
          clear c1 g1 g2
          go_region_held3 (fun V => (fun V => V.cell? ⟨w.heap.size, 0, none⟩ = some (.int .i64 (n0 : Int)) ∧ V.cell? ⟨w.heap.size, 1, none⟩ = some (.slice (some ⟨b, off, none⟩) c.ls.length c.cL) ∧ V.cell? ⟨w.heap.size, 2, none⟩ = some (.slice c.aG c.gs.length c.cG) ∧ V.cell? ⟨w.heap.size, 3, none⟩ = some (.slice c.aO c.os.length c.cO) ∧ V.cell? ⟨w.heap.size, 4, none⟩ = some (.slice c.aB c.bs.length c.cB) ∧ V.cell? ⟨w.heap.size, 5, none⟩ = some (.slice c.aC c.cs.length c.cC) ∧ V.cell? ⟨w.heap.size, 6, none⟩ = some (.slice c.aF c.fs.length c.cF) ∧ V.cell? ⟨w.heap.size, 7, none⟩ = some (.slice c.aN c.ns.length c.cN)) V ∧ V.cell? ⟨b, off + k * 2, none⟩ = some (.int .i64 x))
            (first | exact HK.out _ lx | exact HK.out _ lx.drew)
            (first | (go_at_call 20; (with_reducible refine (HIS.out _ (lo.trans (lx.drew.mono lo.size))).mono ?_); rintro e w2 ⟨rfl, hb2⟩; replace lx := lx.drew.trans hb2))
          replace lo := lo.trans (lx.mono lo.size)
          replace hbx := hbx.below lx hbx.lt
          have c0 := hbx.cell 0
          simp only [List.getElem?_toArray, List.getElem?_cons_zero] at c0
          rw [HN0.out] at c0
          clear HK HIS lx
          cases t with
          | false =>
            rw [if_neg (by simp), Nat.add_zero] at HAS
            go_wp2
            go_roundw
            case rel => exact ⟨k + 1, by omega, by go_num, by rw [← HA2.out, HAS.out], lo, hbx⟩
            case measure => simp [intOf]; omega
          | true =>
            rw [if_pos rfl] at HAS
            go_wp2
            refine ⟨⟨k + 1, by omega, by go_num, ?_, lo, hbx⟩, by simp [intOf]; omega⟩
            rw [← HA2.out, HAS.out, HWR.out]
            congr 1
            simp only [wrap64]
            omega
        · obtain rfl : k = c.ls.length := by omega
          have c1 := hbx.cell 1
          simp only [List.getElem?_toArray, List.getElem?_cons_zero, List.getElem?_cons_succ] at c1
          generalize Cm.aftS c st c.ls.length = a1 at *
          go_wp2
          go_ret
          exact ⟨by rw [HZ.out]; rfl, lo⟩
end Go.Proofs.YtdbmepndebdbpaaGreat
/- The reference's Find. -/
namespace Go.Proofs.YtdbmepndebdbpaaGreat
open Go.RowKit

set_option maxRecDepth 100000 in
set_option maxHeartbeats 8000000 in
theorem refFind_any (c : Cir) (s : ByteArray) (w : World) (hM : CirM w w.heap.size c) (hW : CirW c) (hs : s.size ≤ maxLen) : Calls Tryz.prog 18 #[.agg #[.int .i64 c.n, .slice c.aL c.ls.length c.cL, .slice c.aG c.gs.length c.cG, .slice c.aO c.os.length c.cO, .slice c.aB c.bs.length c.cB, .slice c.aC c.cs.length c.cC, .slice c.aF c.fs.length c.cF, .slice c.aN c.ns.length c.cN], .string s] w fun e w' => e = .returned (.int .i64 (Cm.findS c s)) ∧ Below w.heap.size w w' := by
  have hbx := boxed w c
  have lo := lowAlloc w (Obj.cells #[.int .i64 c.n, .slice c.aL c.ls.length c.cL, .slice c.aG c.gs.length c.cG, .slice c.aO c.os.length c.cO, .slice c.aB c.bs.length c.cB, .slice c.aC c.cs.length c.cC, .slice c.aF c.fs.length c.cF, .slice c.aN c.ns.length c.cN] 28)
  have hnot : ∀ (x : Bool) (w : World), (Op.unary .not (.bool x)).run Tryz.prog w = .ok (.bool (!x)) w := fun _ _ => rfl
  have HR := Lib.hid (refRight4_any c _ ((hM.below lo (Nat.le_refl _)).more lo.size) hW)
  have HSG := Lib.hid (fun k at_ V (hb : Below w.heap.size w V) h0 h1 => refSignal_any c k at_ V ((hM.below hb (Nat.le_refl _)).more hb.size) hW h0 h1)
  have HFS : Hid (Cm.findS c s = if Cm.rightC c = true then match c.ns.find? (fun x => decide (x.2.2 = s)) with | some x => Cm.sigS c x.1 x.2.1 | none => Cm.spelS c s else -1) := rfl
  have HSS : Hid (∀ k a, Cm.signalS c k a = if Cm.rightC c = true then Cm.sigS c k a else -1) := fun _ _ => rfl
  generalize Cm.findS c s = z at *
  generalize Cm.rightC c = t at *
  have c0 := hbx.cell 0; have c1 := hbx.cell 1; have c2 := hbx.cell 2; have c3 := hbx.cell 3; have c4 := hbx.cell 4; have c5 := hbx.cell 5; have c6 := hbx.cell 6; have c7 := hbx.cell 7; simp only [List.getElem?_toArray, List.getElem?_cons_zero, List.getElem?_cons_succ] at c0 c1 c2 c3 c4 c5 c6 c7
  have hln := hW.ln
  go_enter Tryz.func18, Tryz.ntmps18
  go_wp2_with fail
  refine HR.out.mono ?_
  rintro e w1 ⟨rfl, hb1⟩
  replace hbx := hbx.below hb1 hbx.lt
  replace lo := lo.trans (hb1.mono lo.size)
  clear c0 c1 c2 c3 c4 c5 c6 c7
  clear HR hb1
  cases t with
  | false =>
    go_wp2
    go_ret
    exact ⟨by rw [HFS.out]; rfl, lo⟩
  | true =>
    rw [if_pos rfl] at HFS
    have HSS2 : Hid (∀ k a, Cm.signalS c k a = Cm.sigS c k a) := fun k a => by rw [HSS.out, if_pos rfl]
    have HLO := Lib.hid lo
    have HBX := Lib.hid hbx
    clear lo hbx HSS
    go_wp2
    go_loopw [5] (fun iv wr => ∃ k : Nat, k ≤ c.ns.length ∧ iv = .int .i64 k ∧ (c.ns.take k).find? (fun x => decide (x.2.2 = s)) = none ∧ Below w.heap.size w wr ∧ Blk wr w.heap.size 28 #[.int .i64 c.n, .slice c.aL c.ls.length c.cL, .slice c.aG c.gs.length c.cG, .slice c.aO c.os.length c.cO, .slice c.aB c.bs.length c.cB, .slice c.aC c.cs.length c.cC, .slice c.aF c.fs.length c.cF, .slice c.aN c.ns.length c.cN]) (fun iv _ => c.ns.length - (intOf iv).toNat)
    case atStart => exact ⟨0, Nat.zero_le _, rfl, rfl, HLO.out, HBX.out⟩
    case round =>
      obtain ⟨k, hk, rfl, hfn, lo, hbx⟩ := hrel
      by_cases hlt : k < c.ns.length
      · obtain ⟨b, off, hA, hbw, g1, g2, g3⟩ := (hM.hn.below lo (Nat.le_refl _)) k hlt
        have hkk := hW.hk c.ns[k] (by simp)
        have hfe : c.ns.find? (fun x => decide (x.2.2 = s)) = if c.ns[k].2.2 = s then some c.ns[k] else (c.ns.drop (k + 1)).find? (fun x => decide (x.2.2 = s)) := by
          have : c.ns = c.ns.take k ++ c.ns[k] :: c.ns.drop (k + 1) := by rw [← List.drop_eq_getElem_cons hlt, List.take_append_drop]
          conv => lhs; rw [this]
          rw [List.find?_append, hfn, Option.none_or, List.find?_cons]
          by_cases h : c.ns[k].2.2 = s
          · simp [h]
          · simp [h]
        have hf2 : c.ns[k].2.2 ≠ s → (c.ns.take (k + 1)).find? (fun x => decide (x.2.2 = s)) = none := fun h => by
          rw [List.take_succ_eq_append_getElem hlt, List.find?_append, hfn]
          simp [h]
        have HFE := Lib.hid hfe
        have HF2 := Lib.hid hf2
        have hix := ixN b off c.ns.length c.cN k hln hlt
        have c7 := hbx.cell 7
        simp only [List.getElem?_toArray, List.getElem?_cons_zero, List.getElem?_cons_succ] at c7
        clear hfe hf2 hfn
        rw [hA]
        rw [hA] at HSG hbx c7
        clear hA
        generalize c.ns[k] = x at *
        obtain ⟨kd, at_, tx⟩ := x
        simp only at g1 g2 g3 hkk HFE HF2
        obtain ⟨⟨hk0, hk1⟩, _, _⟩ := hkk
        have hse := str_eq tx s
        by_cases he : tx = s
        · have d0 : (tx.toList == s.toList) = true := by rw [hse]; exact decide_eq_true he
          have HZ : Hid (z = Cm.signalS c kd at_) := by
            unfold Hid
            rw [HFS.out, HFE.out, if_pos he, HSS2.out]
          have HSG2 := Lib.hid (fun V hb => HSG.out kd at_ V hb hk0 hk1)
          have HK : Hid (∀ V, Below wr.heap.size wr V → (fun V => V.cell? ⟨w.heap.size, 0, none⟩ = some (.int .i64 c.n) ∧ V.cell? ⟨w.heap.size, 1, none⟩ = some (.slice c.aL c.ls.length c.cL) ∧ V.cell? ⟨w.heap.size, 2, none⟩ = some (.slice c.aG c.gs.length c.cG) ∧ V.cell? ⟨w.heap.size, 3, none⟩ = some (.slice c.aO c.os.length c.cO) ∧ V.cell? ⟨w.heap.size, 4, none⟩ = some (.slice c.aB c.bs.length c.cB) ∧ V.cell? ⟨w.heap.size, 5, none⟩ = some (.slice c.aC c.cs.length c.cC) ∧ V.cell? ⟨w.heap.size, 6, none⟩ = some (.slice c.aF c.fs.length c.cF) ∧ V.cell? ⟨w.heap.size, 7, none⟩ = some (.slice (some ⟨b, off, none⟩) c.ns.length c.cN)) V ∧ V.cell? ⟨b, off + k * 3, none⟩ = some (.int .u8 kd) ∧ V.cell? ⟨b, off + k * 3 + 1, none⟩ = some (.int .i64 at_)) := by
            intro V hb
            have h := hbx.below hb hbx.lt
            have hbl := Nat.lt_of_lt_of_le hbw lo.size
            exact ⟨⟨h.cell 0, h.cell 1, h.cell 2, h.cell 3, h.cell 4, h.cell 5, h.cell 6, h.cell 7⟩, (hb.cell (p := ⟨b, _, none⟩) hbl).trans g1, (hb.cell (p := ⟨b, _, none⟩) hbl).trans g2⟩
          have lx := Below.refl wr.heap.size wr
          clear HFS HFE HF2 hse he HSG HSS2
          go_upto_region 7 with fail
          clear c7 g1 g2 g3
          go_region_held3 (fun V => (fun V => V.cell? ⟨w.heap.size, 0, none⟩ = some (.int .i64 c.n) ∧ V.cell? ⟨w.heap.size, 1, none⟩ = some (.slice c.aL c.ls.length c.cL) ∧ V.cell? ⟨w.heap.size, 2, none⟩ = some (.slice c.aG c.gs.length c.cG) ∧ V.cell? ⟨w.heap.size, 3, none⟩ = some (.slice c.aO c.os.length c.cO) ∧ V.cell? ⟨w.heap.size, 4, none⟩ = some (.slice c.aB c.bs.length c.cB) ∧ V.cell? ⟨w.heap.size, 5, none⟩ = some (.slice c.aC c.cs.length c.cC) ∧ V.cell? ⟨w.heap.size, 6, none⟩ = some (.slice c.aF c.fs.length c.cF) ∧ V.cell? ⟨w.heap.size, 7, none⟩ = some (.slice (some ⟨b, off, none⟩) c.ns.length c.cN)) V ∧ V.cell? ⟨b, off + k * 3, none⟩ = some (.int .u8 kd) ∧ V.cell? ⟨b, off + k * 3 + 1, none⟩ = some (.int .i64 at_))
            (first | exact HK.out _ lx | exact HK.out _ lx.drew)
            (first | (go_at_call 16; (with_reducible refine (HSG2.out _ (lo.trans (lx.drew.mono lo.size))).mono ?_); rintro e w2 ⟨rfl, hb2⟩; replace lx := lx.drew.trans hb2))
          go_wp2
          go_ret
          exact ⟨by rw [HZ.out]; rfl, lo.trans (lx.mono lo.size)⟩
        · have d0 : (tx.toList == s.toList) = false := by rw [hse]; exact decide_eq_false he
          have HNX := Lib.hid (HF2.out he)
          clear HFE HF2 hse he
          go_wp2
          go_roundw
          case rel => exact ⟨k + 1, by omega, by go_num, HNX.out, lo, hbx⟩
          case measure => simp [intOf]; omega
      · obtain rfl : k = c.ns.length := by omega
        rw [List.take_length] at hfn
        have HZ : Hid (z = Cm.spelS c s) := by
          unfold Hid
          rw [HFS.out, hfn]
        have c7 := hbx.cell 7
        simp only [List.getElem?_toArray, List.getElem?_cons_zero, List.getElem?_cons_succ] at c7
        clear hfn HFS
        unfold maxLen at hs
        by_cases h2 : s.size < 2
        · have HZ2 : Hid (z = -1) := by
            unfold Hid
            rw [HZ.out, Cm.spelS]
            by_cases h0 : 0 < s.size
            · rw [dif_pos h0]
              have : Cm.digS (s.extract 1 s.size) = none := by
                unfold Cm.digS
                rw [if_neg]
                rw [ByteArray.size_extract]
                omega
              rw [this]
            · rw [dif_neg h0]
          have dd : decide ((s.size : Int) < 2) = true := decide_eq_true (by omega)
          clear HZ
          go_wp2
          go_ret
          exact ⟨by rw [HZ2.out]; rfl, lo⟩
        · have dd : decide ((s.size : Int) < 2) = false := decide_eq_false (by omega)
          have hsl : ∀ w, (Instr.slice 9 (.string s) (some (.int .i64 1)) none none).run Tryz.prog w = .ok (.string (s.extract 1 s.size)) w := fun w => by
            rw [run_slice_string_from_if w _ _ _ _ Tryz.underlying9, if_pos (by omega)]
            rfl
          have hss : (s.extract 1 s.size).size ≤ maxLen := by
            rw [ByteArray.size_extract]
            unfold maxLen
            omega
          have HZ2 : Hid (z = Cm.signalS c ((s[0]'(by omega)).toNat : Int) (refNum (s.extract 1 s.size))) := by
            unfold Hid
            rw [HZ.out, Cm.spelS, dif_pos (by omega), HSS2.out]
            unfold refNum
            cases Cm.digS (s.extract 1 s.size) with
            | none => simp only; rw [Cm.sigS, if_pos (Or.inl (by omega))]
            | some n => rfl
          have HNU := Lib.hid (fun V => Number_any (s.extract 1 s.size) V hss)
          have hix0 : ∀ w, (Instr.index 9 (.string s) (.int .i64 0)).run Tryz.prog w = .ok (.int .u8 ((s[0]'(by omega)).toNat : Int)) w := fun w => index_str s 0 (by omega) w
          have hr0 : ((s[0]'(by omega : 0 < s.size)).toNat) < 256 := UInt8.toNat_lt _
          generalize hgr : (s[0]'(by omega : 0 < s.size)).toNat = r0 at *
          generalize refNum (s.extract 1 s.size) = nn at *
          have HSG2 := Lib.hid (fun V hb => HSG.out (r0 : Int) nn V hb (by omega) (by omega))
          have HK : Hid (∀ V, Below wr.heap.size wr V → (fun V => V.cell? ⟨w.heap.size, 0, none⟩ = some (.int .i64 c.n) ∧ V.cell? ⟨w.heap.size, 1, none⟩ = some (.slice c.aL c.ls.length c.cL) ∧ V.cell? ⟨w.heap.size, 2, none⟩ = some (.slice c.aG c.gs.length c.cG) ∧ V.cell? ⟨w.heap.size, 3, none⟩ = some (.slice c.aO c.os.length c.cO) ∧ V.cell? ⟨w.heap.size, 4, none⟩ = some (.slice c.aB c.bs.length c.cB) ∧ V.cell? ⟨w.heap.size, 5, none⟩ = some (.slice c.aC c.cs.length c.cC) ∧ V.cell? ⟨w.heap.size, 6, none⟩ = some (.slice c.aF c.fs.length c.cF) ∧ V.cell? ⟨w.heap.size, 7, none⟩ = some (.slice c.aN c.ns.length c.cN)) V) := by
            intro V hb
            have h := hbx.below hb hbx.lt
            exact ⟨h.cell 0, h.cell 1, h.cell 2, h.cell 3, h.cell 4, h.cell 5, h.cell 6, h.cell 7⟩
          have lx := Below.refl wr.heap.size wr
          clear HZ hss hgr HSG HSS2
          go_upto_region 10 with fail
          clear c7
          go_region_held3 (fun V => V.cell? ⟨w.heap.size, 0, none⟩ = some (.int .i64 c.n) ∧ V.cell? ⟨w.heap.size, 1, none⟩ = some (.slice c.aL c.ls.length c.cL) ∧ V.cell? ⟨w.heap.size, 2, none⟩ = some (.slice c.aG c.gs.length c.cG) ∧ V.cell? ⟨w.heap.size, 3, none⟩ = some (.slice c.aO c.os.length c.cO) ∧ V.cell? ⟨w.heap.size, 4, none⟩ = some (.slice c.aB c.bs.length c.cB) ∧ V.cell? ⟨w.heap.size, 5, none⟩ = some (.slice c.aC c.cs.length c.cC) ∧ V.cell? ⟨w.heap.size, 6, none⟩ = some (.slice c.aF c.fs.length c.cF) ∧ V.cell? ⟨w.heap.size, 7, none⟩ = some (.slice c.aN c.ns.length c.cN))
            (first | exact HK.out _ lx | exact HK.out _ lx.drew)
            (first | (go_at_call 37; (with_reducible refine (HNU.out _).mono ?_); rintro e w3 ⟨rfl, rfl⟩) | (go_at_call 16; (with_reducible refine (HSG2.out _ (lo.trans (lx.drew.mono lo.size))).mono ?_); rintro e w2 ⟨rfl, hb2⟩; replace lx := lx.drew.trans hb2))
          all_goals go_wp2
          all_goals go_ret
          all_goals exact ⟨by rw [HZ2.out]; rfl, lo.trans (lx.mono lo.size)⟩
end Go.Proofs.YtdbmepndebdbpaaGreat
