/- ConeCopy, walked. -/
import Derived.Test.YteknkaodogbaaaaCU
import Derived.Test.YteknkaodogbaaaaLF
namespace Go.Proofs.Yteknkaodogbaaaa
open Go.RowKit

/-- The numbers that the inputs correspond to. -/
def xsel (bys : List Int) (i : Nat) : Int := if i < bys.length then bys.getD i 0 else i
def bL (bys : List Int) (M : Int) (k : Nat) : List Int := (List.range k).map fun i => xsel bys i % M
def wL (nt : Nat) (tg : List (Int × Int)) (vs : List Bool) (bys : List Int) (M : Int) (k : Nat) : List Bool := (List.range k).map fun i => Em.evalB nt tg (xsel bys i % M) vs
theorem bL_succ (bys : List Int) (M : Int) (k : Nat) : iv (bL bys M (k + 1)) = iv (bL bys M k) ++ [.int .i64 (xsel bys k % M)] := by simp [bL, List.range_succ]
theorem wL_succ (nt : Nat) (tg : List (Int × Int)) (vs : List Bool) (bys : List Int) (M : Int) (k : Nat) : bv (wL nt tg vs bys M (k + 1)) = bv (wL nt tg vs bys M k) ++ [.bool (Em.evalB nt tg (xsel bys k % M) vs)] := by simp [wL, List.range_succ]
theorem bL_len (bys : List Int) (M : Int) (k : Nat) : (bL bys M k).length = k := by simp [bL]
theorem wL_len (nt : Nat) (tg : List (Int × Int)) (vs : List Bool) (bys : List Int) (M : Int) (k : Nat) : (wL nt tg vs bys M k).length = k := by simp [wL]
theorem bL_get (bys : List Int) (M : Int) {k j : Nat} (hj : j < k) : (bL bys M k).getD j 0 = xsel bys j % M := by simp [bL, List.getD_eq_getElem?_getD, List.getElem?_map, List.getElem?_range hj]
theorem wL_get (nt : Nat) (tg : List (Int × Int)) (vs : List Bool) (bys : List Int) (M : Int) {k j : Nat} (hj : j < k) : (wL nt tg vs bys M k).getD j false = Em.evalB nt tg (xsel bys j % M) vs := by simp [wL, List.getD_eq_getElem?_getD, List.getElem?_map, List.getElem?_range hj]
theorem mod_lit {nt : Nat} {tg : List (Int × Int)} (hr : Gm.rightB nt tg = true) (x : Int) : Gm.litB nt tg.length (x % (2 * ((nt : Int) + 1 + tg.length))) = true := by
  have h := right_facts hr
  have h0 := Int.emod_nonneg x (show 2 * ((nt : Int) + 1 + tg.length) ≠ 0 by omega)
  have h1 := Int.emod_lt_of_pos x (show 0 < 2 * ((nt : Int) + 1 + tg.length) by omega)
  exact lit_mk (by omega) (by omega) h0 (by omega)
theorem copy_facts {nt nf : Nat} {tg gs : List (Int × Int)} {l : Int} {vs : List Bool} {bys : List Int} (hrt : Gm.rightB nt tg = true) (hr : Gm.rightB nf gs = true) (hl : Gm.litB nf gs.length l = true) (hroom : 1 + (nt : Int) + tg.length + gs.length < 2000) (hv : vs.length = nt) :
    ∃ t z, Cm.copyS nt tg nf gs l (bL bys (2 * ((nt : Int) + 1 + tg.length)) nf) = (((nt : Int), t), z, 0) ∧ Gm.rightB nt t = true ∧ Gm.litB nt t.length z = true ∧ t.length ≤ tg.length + gs.length ∧ Em.evalB nt t z vs = Em.evalB nf gs l (wL nt tg vs bys (2 * ((nt : Int) + 1 + tg.length)) nf) := by
  have G := Cm.copy_good (l := l) (by_ := bL bys (2 * ((nt : Int) + 1 + tg.length)) nf) hrt hr hl (bL_len _ _ _) (fun j hj => by rw [bL_get _ _ hj]; exact mod_lit hrt _) hroom
  generalize Cm.copyS nt tg nf gs l (bL bys (2 * ((nt : Int) + 1 + tg.length)) nf) = r at *
  obtain ⟨⟨n', t⟩, z, er⟩ := r
  obtain ⟨e1, e2, e3, e4, _, e5, e6, _⟩ := G
  simp only at e1 e2 e3 e4 e5 e6
  subst e1 e2
  refine ⟨t, z, rfl, e3, e4, e5, ?_⟩
  rw [Em.evalB_in e3 e4 (by omega), Em.evalB_in hr hl (by rw [wL_len])]
  refine e6 vs _ hv (wL_len _ _ _ _ _ _) fun j hj => ?_
  rw [wL_get _ _ _ _ _ hj, bL_get _ _ hj, Em.evalB_in hrt (mod_lit hrt _) (by omega)]

set_option maxRecDepth 100000 in
set_option maxHeartbeats 16000000 in
theorem coneCopy_walk (a0 : Int) (A0 : Option Addr) (c0 : Nat) (zs : List Int) (a2 : Int) (A3 : Option Addr) (c3 : Nat) (ks : List Int) (A4 : Option Addr) (c4 : Nat) (bys : List Int) (a5 : Int) (w : World) (h0 : 0 ≤ a0) (h0' : a0 ≤ 255) (hm : zs.length ≤ maxLen) (hU : Us w w.heap.size A0 zs) (h2 : 0 ≤ a2) (h2' : a2 ≤ 255) (hm3 : ks.length ≤ maxLen) (hU3 : Us w w.heap.size A3 ks) (hm4 : bys.length ≤ maxLen) (hU4 : Ub w w.heap.size A4 bys) (h5 : 0 ≤ a5) (h5' : a5 ≤ 255) :
    Calls Try.prog 4 #[.int .u8 a0, .slice A0 zs.length c0, .int .u8 a2, .slice A3 ks.length c3, .slice A4 bys.length c4, .int .u8 a5] w fun e w' => e = .returned (.bool true) ∧ Below w.heap.size w w' := by
  unfold maxLen at hm4
  have HMT := Lib.hid (fun V hV => made_any (a2 % 7) A3 c3 ks V (by omega) (by omega) hm3 hV)
  clear hm3
  have HAW := Lib.hid (awake3_any w)
  have hnot : ∀ (x : Bool) (w : World), (Op.unary .not (.bool x)).run Try.prog w = .ok (.bool (!x)) w := fun _ _ => rfl
  have HMD := Lib.hid (fun V hV => made_any (a0 % 7) A0 c0 zs V (by omega) (by omega) hm hV)
  clear hm
  go_enter Try.func4, Try.ntmps4
  go_wp2_with fail
  refine HAW.out.mono ?_
  rintro e w0 ⟨rfl, lo⟩
  go_wp2_with fail
  have hn0 : 0 ≤ a0 % 7 := by omega
  have hn6 : a0 % 7 ≤ 6 := by omega
  generalize a0 % 7 = n at *
  obtain ⟨m, rfl⟩ := Int.eq_ofNat_of_zero_le hn0
  refine (HMD.out w0 ((hU.below lo (Nat.le_refl _)).more lo.size)).mono ?_
  rintro e w1 ⟨A, c, gs, last, rfl, hG, hgood, hb1⟩
  have g0 := GX.new (n := (m : Int)) (c := c) (l := gs.length) hG 26
  replace lo := (lo.trans (hb1.mono lo.size)).alloc (Nat.le_trans lo.size hb1.size) (Obj.cells #[.int .i64 m, .slice A gs.length c] 26)
  obtain ⟨hr, hfew, hwf, hlit⟩ := hgood
  clear HMD hG hb1 HAW
  go_upto_region 5 with fail
  generalize w1.alloc (Obj.cells #[.int .i64 m, .slice A gs.length c] 26) = V at *
  have k0 := g0.c0
  have k1 := g0.c1
  obtain ⟨hr0, hr1, hr2, _⟩ := right_facts hr
  go_wp2_with fail
  have hn7 : 0 ≤ a2 % 7 := by omega
  have hn8 : a2 % 7 ≤ 6 := by omega
  generalize a2 % 7 = n2 at *
  obtain ⟨nt, rfl⟩ := Int.eq_ofNat_of_zero_le hn7
  refine (HMT.out V ((hU3.below lo (Nat.le_refl _)).more lo.size)).mono ?_
  rintro e w2 ⟨At, ct, tg, last2, rfl, hG2, hgood2, hb2⟩
  obtain ⟨hrt, hfewt, hwt, _⟩ := hgood2
  simp only
  have j0 := GX.new (n := (nt : Int)) (c := ct) (l := tg.length) hG2 26
  have l2 := hb2.alloc hb2.size (Obj.cells #[.int .i64 nt, .slice At tg.length ct] 26)
  replace g0 := g0.below l2
  replace lo := lo.trans (l2.mono lo.size)
  obtain ⟨ht0, ht1, ht2, _⟩ := right_facts hrt
  clear HMT hG2 hb2 l2 k0 k1
  go_upto_region 6 with fail
  generalize w2.alloc (Obj.cells #[.int .i64 nt, .slice At tg.length ct] 26) = V2 at *
  have k0 := j0.c0
  have k1 := j0.c1
  go_wp2_with fail
  refine (bits_any a5 nt V2 h5 (by omega) (by omega)).mono ?_
  rintro e w3 ⟨Av, cv, rfl, hVv, hb3⟩
  replace g0 := g0.below hb3
  replace j0 := j0.below hb3
  replace lo := lo.trans (hb3.mono lo.size)
  have hvl := bitsB_length a5 nt
  generalize bitsB a5 nt = vs at *
  have HVL := Lib.hid hvl
  have HCF := Lib.hid (copy_facts (vs := vs) (bys := bys) hrt hr hlit (by omega) hvl)
  have hM0 : 0 < 2 * ((nt : Int) + 1 + (tg.length : Int)) := by omega
  have HLM : Hid (∀ x, Gm.litB nt tg.length (x % (2 * ((nt : Int) + 1 + (tg.length : Int)))) = true) := fun x => mod_lit hrt x
  clear hvl k0 k1 hb3
  go_wp2_with fail
  go_loopw [19, 20, 21] (fun vb vw i wr => ∃ k : Nat, k ≤ m ∧ i = .int .i64 k ∧ TX w3 wr 3 4 vb vw (iv (bL bys (2 * ((nt : Int) + 1 + (tg.length : Int))) k)) (bv (wL nt tg vs bys (2 * ((nt : Int) + 1 + (tg.length : Int))) k))) (fun _ _ i _ => m - (intOf i).toNat)
  case atStart => exact ⟨0, Nat.zero_le _, rfl, TX.start _ _ _⟩
  case round =>
    obtain ⟨k, hkl, rfl, T⟩ := hrel
    have g1 := g0.below T.low
    have j1 := j0.below T.low
    have k0 := g1.c0
    have k1 := g1.c1
    have k2 := j1.c0
    have k3 := j1.c1
    by_cases hlt : k < m
    · have HBS := Lib.hid (bL_succ bys (2 * ((nt : Int) + 1 + (tg.length : Int))) k)
      have HWS := Lib.hid (wL_succ nt tg vs bys (2 * ((nt : Int) + 1 + (tg.length : Int))) k)
      have HLx := Lib.hid (show (iv (bL bys (2 * ((nt : Int) + 1 + (tg.length : Int))) k)).length + 1 ≤ 2000000 by simp [bL_len]; omega)
      have HLy := Lib.hid (show (bv (wL nt tg vs bys (2 * ((nt : Int) + 1 + (tg.length : Int))) k)).length + 1 ≤ 2000000 by simp [wL_len]; omega)
      have HVR : Hid (∀ V, Calls Try.prog 14 #[.agg #[.int .i64 nt, .slice At tg.length ct]] V fun e w' => e = .returned (.int .i64 (nt + 1 + tg.length)) ∧ Below V.heap.size V w') := fun V => refVars_any nt At tg.length ct V ht0 ht1 (by omega)
      by_cases hkb : k < bys.length
      · have hks : xsel bys k = bys[k] := by unfold xsel; rw [if_pos hkb]; simp [List.getD_eq_getElem?_getD, List.getElem?_eq_getElem hkb]
        rw [hks] at HBS HWS
        obtain ⟨bb, ob, hA, hbb, qb, hq0, hq1⟩ := (hU4.below (lo.trans (T.low.mono lo.size)) (Nat.le_refl _)) k hkb
        subst hA
        have hix := ixU8 bb ob bys.length c4 k (by omega) hkb
        have hdk : decide ((k : Int) < (bys.length : Int)) = true := by simp; omega
        clear hks
        generalize bys[k] = z at *
        have HE := Lib.hid (fun V h p => refEval_any nt At ct tg (z % (2 * ((nt : Int) + 1 + (tg.length : Int)))) Av cv vs V (by omega) (by have := HVL.out; omega) h hwt p (by have := lit_facts (HLM.out z); omega))
        generalize Em.evalB nt tg (z % (2 * ((nt : Int) + 1 + (tg.length : Int)))) vs = ev at *
        go_wp2_with (first | (go_at_call 14; refine (HVR.out _).mono ?_; rintro e w5 ⟨rfl, hb5⟩; replace T := T.below hb5; clear j1 k0 k1 k2 k3; have j1 := j0.below T.low; have k2 := j1.c0; have k3 := j1.c1) | (at_builtin; (refine wpList_ints rfl (.tmp 71) (.tmp 73) rfl w3.heap.size _ _ (iv (bL bys (2 * ((nt : Int) + 1 + (tg.length : Int))) k)) [.int .i64 (z % (2 * ((nt : Int) + 1 + (tg.length : Int))))] rfl (T.alloc _).ox _ _ _ rfl rfl (vs_one _ _ _) (one_int _) HLx.out (T.alloc _).base ?_); intro vx' wx hox hgx hsx; have T' := (T.alloc _).step hox hgx hsx; clear j1 k2 k3; have j1 := j0.below T'.low; have k2 := j1.c0; have k3 := j1.c1; have hVv1 := (hVv.below T'.low (Nat.le_refl _)).more T'.low.size) | (go_at_call 12; refine (HE.out _ j1.gr hVv1).mono ?_; rintro e w6 ⟨rfl, hb6⟩; replace T' := T'.below hb6) | (at_builtin; (refine wpList_bools rfl (.tmp 75) (.tmp 80) rfl w3.heap.size _ _ (bv (wL nt tg vs bys (2 * ((nt : Int) + 1 + (tg.length : Int))) k)) [.bool ev] rfl (T'.alloc _).oy _ _ _ rfl rfl (vs_one _ _ _) (one_bool _) HLy.out (T'.alloc _).base ?_); intro vy' wy hoy hgy hsy))
        go_roundw
        case rel => exact ⟨k + 1, by omega, by go_num, by rw [HBS.out, HWS.out]; exact ((T'.alloc _).swap.step hoy hgy hsy).swap⟩
        case measure => simp [intOf]; omega
      · have hks : xsel bys k = (k : Int) := by unfold xsel; rw [if_neg hkb]
        rw [hks] at HBS HWS
        have hdk : decide ((k : Int) < (bys.length : Int)) = false := by simp; omega
        have HE := Lib.hid (fun V h p => refEval_any nt At ct tg ((k : Int) % (2 * ((nt : Int) + 1 + (tg.length : Int)))) Av cv vs V (by omega) (by have := HVL.out; omega) h hwt p (by have := lit_facts (HLM.out k); omega))
        generalize Em.evalB nt tg ((k : Int) % (2 * ((nt : Int) + 1 + (tg.length : Int)))) vs = ev at *
        go_wp2_with (first | (go_at_call 14; refine (HVR.out _).mono ?_; rintro e w5 ⟨rfl, hb5⟩; replace T := T.below hb5; clear j1 k0 k1 k2 k3; have j1 := j0.below T.low; have k2 := j1.c0; have k3 := j1.c1) | (at_builtin; (refine wpList_ints rfl (.tmp 71) (.tmp 73) rfl w3.heap.size _ _ (iv (bL bys (2 * ((nt : Int) + 1 + (tg.length : Int))) k)) [.int .i64 ((k : Int) % (2 * ((nt : Int) + 1 + (tg.length : Int))))] rfl (T.alloc _).ox _ _ _ rfl rfl (vs_one _ _ _) (one_int _) HLx.out (T.alloc _).base ?_); intro vx' wx hox hgx hsx; have T' := (T.alloc _).step hox hgx hsx; clear j1 k2 k3; have j1 := j0.below T'.low; have k2 := j1.c0; have k3 := j1.c1; have hVv1 := (hVv.below T'.low (Nat.le_refl _)).more T'.low.size) | (go_at_call 12; refine (HE.out _ j1.gr hVv1).mono ?_; rintro e w6 ⟨rfl, hb6⟩; replace T' := T'.below hb6) | (at_builtin; (refine wpList_bools rfl (.tmp 75) (.tmp 80) rfl w3.heap.size _ _ (bv (wL nt tg vs bys (2 * ((nt : Int) + 1 + (tg.length : Int))) k)) [.bool ev] rfl (T'.alloc _).oy _ _ _ rfl rfl (vs_one _ _ _) (one_bool _) HLy.out (T'.alloc _).base ?_); intro vy' wy hoy hgy hsy))
        go_roundw
        case rel => exact ⟨k + 1, by omega, by go_num, by rw [HBS.out, HWS.out]; exact ((T'.alloc _).swap.step hoy hgy hsy).swap⟩
        case measure => simp [intOf]; omega
    · obtain rfl : k = m := by omega
      obtain ⟨t, z, hcs, hrt3, hlz, htl, hev⟩ := HCF.out
      obtain ⟨Ab, cb, hvb, hVb⟩ := T.ox.vs
      obtain ⟨Aw, cw, hvw, hVw⟩ := T.oy.vs
      rw [List.length_map] at hvb hvw
      subst hvb hvw
      have lo2 := lo.trans (T.low.mono lo.size)
      have hVv2 := (hVv.below T.low (Nat.le_refl _)).more T.low.size
      have HBL := Lib.hid (bL_len bys (2 * ((nt : Int) + 1 + (tg.length : Int))) k)
      have HWL := Lib.hid (wL_len nt tg vs bys (2 * ((nt : Int) + 1 + (tg.length : Int))) k)
      have hwz := right_wf hrt3
      have hzl := lit_facts hlz
      have HVL2 := HVL
      clear T HCF HLM HVL
      generalize bL bys (2 * ((nt : Int) + 1 + (tg.length : Int))) k = bl at *
      generalize wL nt tg vs bys (2 * ((nt : Int) + 1 + (tg.length : Int))) k = wl at *
      have HC := Lib.hid (copy_any nt At ct tg k A c gs last Ab cb bl wr (by omega) (by omega) (by have := HBL.out; omega) j1.gr g1.gr hVb hwt hwf)
      rw [hcs] at HC
      clear hcs
      go_wp2_with fail
      refine HC.out.mono ?_
      rintro e w4 ⟨A4', c4', rfl, hG4, _, hb4⟩
      simp only
      have l4 := hb4.alloc hb4.size (Obj.cells #[.int .i64 nt, .slice A4' t.length c4'] 26)
      have i4 := GX.new (n := (nt : Int)) (c := c4') (l := t.length) hG4 26
      have g4 := g1.below l4
      have lo4 := lo2.trans (l4.mono lo2.size)
      have hVv4 := (hVv2.below l4 (Nat.le_refl _)).more l4.size
      have hVw4 := (hVw.below l4 (Nat.le_refl _)).more l4.size
      clear HC k0 k1 k2 k3 hG4 hb4 l4 g1 j1 lo2 hVv2 hVw hVb
      go_upto_region 19 with fail
      generalize w4.alloc (Obj.cells #[.int .i64 nt, .slice A4' t.length c4'] 26) = V4 at *
      have HR := Lib.hid (fun V h => refRight_any nt A4' c4' t V V.heap.size (by omega) h (Nat.le_refl _) hwz)
      rw [hrt3] at HR
      have HEH := Lib.hid (fun V h p => refEval_any nt A4' c4' t z Av cv vs V (by omega) (by have := HVL2.out; omega) h hwz p (by omega))
      have HEG := Lib.hid (fun V h p => refEval_any k A c gs last Aw cw wl V (by omega) (by have := HWL.out; omega) h hwf p (by have := lit_facts hlit; omega))
      rw [hev] at HEH
      generalize Em.evalB k gs last wl = s at *
      clear hev
      have lx := (Below.refl V4.heap.size V4).drew
      go_region_held3 (fun W => W.cell? ⟨w1.heap.size, 0, none⟩ = some (.int .i64 k) ∧ W.cell? ⟨w1.heap.size, 1, none⟩ = some (.slice A gs.length c) ∧ W.cell? ⟨w4.heap.size, 0, none⟩ = some (.int .i64 nt) ∧ W.cell? ⟨w4.heap.size, 1, none⟩ = some (.slice A4' t.length c4'))
        (exact ⟨(g4.below lx).c0, (g4.below lx).c1, (i4.below lx).c0, (i4.below lx).c1⟩)
        (first | (go_at_call 16; (with_reducible refine (HR.out _ (i4.below lx).gr).mono ?_); rintro e wn ⟨rfl, hbn⟩; replace lx := lx.trans (hbn.mono lx.size))
               | (go_at_call 12; (with_reducible refine (HEH.out _ (i4.below lx).gr ((hVv4.below lx (Nat.le_refl _)).more lx.size)).mono ?_); rintro e wn ⟨rfl, hbn⟩; replace lx := lx.trans (hbn.mono lx.size))
               | (go_at_call 12; (with_reducible refine (HEG.out _ (g4.below lx).gr ((hVw4.below lx (Nat.le_refl _)).more lx.size)).mono ?_); rintro e wn ⟨rfl, hbn⟩; replace lx := lx.trans (hbn.mono lx.size)))
      go_wp2_with fail
      go_ret
      exact ⟨rfl, lo4.trans (lx.mono lo4.size)⟩
end Go.Proofs.Yteknkaodogbaaaa
