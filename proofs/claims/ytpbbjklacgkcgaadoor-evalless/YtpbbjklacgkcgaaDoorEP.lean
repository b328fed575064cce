/- EvalLess, walked. -/
import Derived.Test.YtpbbjklacgkcgaaDoorEO
namespace Go.Proofs.YtpbbjklacgkcgaaDoor
open Go.RowKit

def xsL (a : Int) (k : Nat) : List Int := (List.range k).map fun i => (a / 2 ^ (2 * i)).tmod 3
def ysL (a : Int) (fr : List Bool) (k : Nat) : List Int := (List.range k).map fun i => if fr.getD i false then 2 else (a / 2 ^ (2 * i)).tmod 3
theorem xsL_succ (a : Int) (k : Nat) : iv (xsL a (k + 1)) = iv (xsL a k) ++ [.int .i64 ((a / 2 ^ (2 * k)).tmod 3)] := by simp [xsL, List.range_succ]
theorem ysL_succ (a : Int) (fr : List Bool) (k : Nat) : iv (ysL a fr (k + 1)) = iv (ysL a fr k) ++ [.int .i64 (if fr.getD k false then 2 else (a / 2 ^ (2 * k)).tmod 3)] := by simp [ysL, List.range_succ]
theorem xsL_len (a : Int) (k : Nat) : (xsL a k).length = k := by simp [xsL]
theorem ysL_len (a : Int) (fr : List Bool) (k : Nat) : (ysL a fr k).length = k := by simp [ysL]
theorem less_rel (n : Int) (gs : List (Int × Int)) (l a : Int) (fr : List Bool) (k : Nat) : Em.Le3 (Em.threeS n gs l (xsL a k)) (Em.threeS n gs l (ysL a fr k)) := by
  refine Em.three_less n gs l _ _ (by rw [xsL_len, ysL_len]) fun i h1 h2 => ?_
  simp only [xsL, ysL, List.getElem_map, List.getElem_range]
  split
  · exact Or.inl rfl
  · exact Or.inr rfl

set_option maxRecDepth 100000 in
set_option maxHeartbeats 16000000 in
theorem evalLess_walk (a0 : Int) (A0 : Option Addr) (c0 : Nat) (zs : List Int) (a2 a3 : Int) (w : World) (h0 : 0 ≤ a0) (h0' : a0 ≤ 255) (hm : zs.length ≤ maxLen) (hU : Us w w.heap.size A0 zs) (h2 : 0 ≤ a2) (h2' : a2 ≤ 65535) (h3 : 0 ≤ a3) (h3' : a3 ≤ 255) (hT : Tabs w) :
    Calls Tryd.prog 8 #[.int .u8 a0, .slice A0 zs.length c0, .int .u16 a2, .int .u8 a3] w fun e w' => e = .returned (.bool true) ∧ Below w.heap.size w w' := by
  have HAW := Lib.hid (awake2_any w hT)
  have hnot : ∀ (x : Bool) (w : World), (Op.unary .not (.bool x)).run Tryd.prog w = .ok (.bool (!x)) w := fun _ _ => rfl
  have HMD := Lib.hid (fun V hV => made_any (a0 % 7) A0 c0 zs V (by omega) (by omega) hm hV)
  clear hm
  go_enter Tryd.func8, Tryd.ntmps8
  go_wp2_with fail
  refine HAW.out.mono ?_
  rintro e w0 ⟨rfl, lo⟩
  go_wp2_with fail
  have hn0 : 0 ≤ a0 % 7 := by omega
  have hn6 : a0 % 7 ≤ 6 := by omega
  generalize a0 % 7 = n at *
  obtain ⟨m, rfl⟩ := Int.eq_ofNat_of_zero_le hn0
  refine (HMD.out w0 ((hU.below lo (Nat.le_refl _)).more lo.size)).mono ?_
  rintro e w1 ⟨A, c, gs, last, rfl, hG, hgood, hb1⟩
  have g0 := GX.new (n := (m : Int)) (c := c) (l := gs.length) hG 24
  replace lo := (lo.trans (hb1.mono lo.size)).alloc (Nat.le_trans lo.size hb1.size) (Obj.cells #[.int .i64 m, .slice A gs.length c] 24)
  obtain ⟨hr, hfew, hwf, hlit⟩ := hgood
  clear HMD hG hb1 HAW
  go_upto_region 5 with fail
  generalize w1.alloc (Obj.cells #[.int .i64 m, .slice A gs.length c] 24) = V at *
  have k0 := g0.c0
  have k1 := g0.c1
  go_wp2_with fail
  refine (bits_any a3 m V h3 (by omega) (by omega)).mono ?_
  rintro e w2 ⟨Af, cf, rfl, hVf, hb2⟩
  replace g0 := g0.below hb2
  replace lo := lo.trans (hb2.mono lo.size)
  clear k0 k1 hb2
  have hfl := bitsB_length a3 m
  generalize bitsB a3 m = fr at *
  have HFL := Lib.hid hfl
  clear hfl
  go_wp2_with fail
  go_loopw [13, 14, 15] (fun vx vy i wr => ∃ k : Nat, k ≤ m ∧ i = .int .i64 k ∧ T2 w2 wr 3 vx vy (iv (xsL a2 k)) (iv (ysL a2 fr k))) (fun _ _ i _ => m - (intOf i).toNat)
  case atStart => exact ⟨0, Nat.zero_le _, rfl, T2.start _ _⟩
  case round =>
    obtain ⟨k, hkl, rfl, T⟩ := hrel
    have g1 := g0.below T.low
    have k0 := g1.c0
    have k1 := g1.c1
    by_cases hlt : k < m
    · have hfl := HFL.out
      obtain ⟨bf, off, hA, hbf, qf⟩ := hVf.bool k (by omega)
      subst hA
      have hxf := ixB bf off fr.length cf k (by omega) (by omega)
      have hzs := Lib.hid (xsL_succ a2 k)
      have hys := Lib.hid (ysL_succ a2 fr k)
      have HLx := Lib.hid (show (iv (xsL a2 k)).length + 1 ≤ 2000000 by simp [xsL_len]; omega)
      have HLy := Lib.hid (show (iv (ysL a2 fr k)).length + 1 ≤ 2000000 by simp [ysL_len]; omega)
      generalize fr.getD k false = fb at *
      clear hfl
      have h2k : (2 * (k : Int)).toNat = 2 * k := by omega
      cases fb
      · go_wp2_with (first | (at_builtin; (refine wpList_ints rfl (.tmp 47) (.tmp 49) rfl w2.heap.size _ _ (iv (xsL a2 k)) [.int .i64 ((a2 / 2 ^ (2 * k)).tmod 3)] rfl (T.alloc _).ox _ _ _ rfl rfl (vs_one _ _ _) (one_int _) HLx.out (T.alloc _).base ?_); intro vx' wx hox hgx hsx; have T' := (T.alloc _).step hox hgx hsx; have qf1 := (T'.low.cell (p := ⟨bf, off + k, none⟩) hbf).trans qf) | (at_builtin; (refine wpList_ints rfl (.tmp 55) (.tmp 57) rfl w2.heap.size _ _ (iv (ysL a2 fr k)) [.int .i64 ((a2 / 2 ^ (2 * k)).tmod 3)] rfl (T'.alloc _).oy _ _ _ rfl rfl (vs_one _ _ _) (one_int _) HLy.out (T'.alloc _).base ?_); intro vy' wy hoy hgy hsy))
        go_roundw
        case rel => exact ⟨k + 1, by omega, by go_num, by rw [hzs.out, hys.out]; exact ((T'.alloc _).swap.step hoy hgy hsy).swap⟩
        case measure => simp [intOf]; omega
      · go_wp2_with (first | (at_builtin; (refine wpList_ints rfl (.tmp 47) (.tmp 49) rfl w2.heap.size _ _ (iv (xsL a2 k)) [.int .i64 ((a2 / 2 ^ (2 * k)).tmod 3)] rfl (T.alloc _).ox _ _ _ rfl rfl (vs_one _ _ _) (one_int _) HLx.out (T.alloc _).base ?_); intro vx' wx hox hgx hsx; have T' := (T.alloc _).step hox hgx hsx; have qf1 := (T'.low.cell (p := ⟨bf, off + k, none⟩) hbf).trans qf) | (at_builtin; (refine wpList_ints rfl (.tmp 55) (.tmp 57) rfl w2.heap.size _ _ (iv (ysL a2 fr k)) [.int .i64 (2)] rfl (T'.alloc _).oy _ _ _ rfl rfl (vs_one _ _ _) (one_int _) HLy.out (T'.alloc _).base ?_); intro vy' wy hoy hgy hsy))
        go_roundw
        case rel => exact ⟨k + 1, by omega, by go_num, by rw [hzs.out, hys.out]; exact ((T'.alloc _).swap.step hoy hgy hsy).swap⟩
        case measure => simp [intOf]; omega
    · have hkk : k = m := by omega
      subst hkk
      obtain ⟨Ax, cx, hvx, hVx⟩ := T.ox.vs
      obtain ⟨Ay, cy, hvy, hVy⟩ := T.oy.vs
      rw [List.length_map] at hvx hvy
      subst hvx hvy
      have loU := lo.trans (T.low.mono lo.size)
      have hTU := hT.below loU hT.sz
      have hrf := right_facts hr
      have CX := Lib.hid (fun V h q t => Three_any k A c gs last Ax cx (xsL a2 k) V (by omega) (by rw [xsL_len]; omega) h hwf q t)
      have CY := Lib.hid (fun V h q t => Three_any k A c gs last Ay cy (ysL a2 fr k) V (by omega) (by rw [ysL_len]; omega) h hwf q t)
      have HRL := Lib.hid (less_rel k gs last a2 fr k)
      generalize Em.threeS k gs last (xsL a2 k) = a at *
      generalize Em.threeS k gs last (ysL a2 fr k) = b at *
      clear T hVf g0 hrf
      go_upto_region 15 with fail
      have lx := (Below.refl wr.heap.size wr).drew
      go_region_held3 (fun W => W.cell? ⟨w1.heap.size, 0, none⟩ = some (.int .i64 k) ∧ W.cell? ⟨w1.heap.size, 1, none⟩ = some (.slice A gs.length c))
        (exact ⟨(g1.below lx).c0, (g1.below lx).c1⟩)
        (first | (go_at_call 15; (with_reducible refine (CX.out _ (g1.below lx).gr ((hVx.below lx (Nat.le_refl _)).more lx.size) (hTU.below lx hTU.sz)).mono ?_); rintro e wn ⟨rfl, hbn⟩; replace lx := lx.trans (hbn.mono lx.size))
               | (go_at_call 15; (with_reducible refine (CY.out _ (g1.below lx).gr ((hVy.below lx (Nat.le_refl _)).more lx.size) (hTU.below lx hTU.sz)).mono ?_); rintro e wn ⟨rfl, hbn⟩; replace lx := lx.trans (hbn.mono lx.size)))
      by_cases hab : a = b
      · subst hab
        go_wp2
        go_ret
        exact ⟨rfl, loU.trans (lx.mono loU.size)⟩
      · obtain rfl : b = 2 := HRL.out.resolve_right hab
        have hab2 : (a == 2) = false := by simpa using hab
        go_wp2
        go_ret
        exact ⟨rfl, loU.trans (lx.mono loU.size)⟩
end Go.Proofs.YtpbbjklacgkcgaaDoor
