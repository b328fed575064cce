/- EvalThree, walked. -/
import Derived.Test.YtpbbjklacgkcgaaDoorEO
namespace Go.Proofs.YtpbbjklacgkcgaaDoor
open Go.RowKit

def zL (ins : List Bool) (k : Nat) : List Int := (List.range k).map fun i => if ins.getD i false then 1 else 0
def yL (ins fr : List Bool) (k : Nat) : List Int := (List.range k).map fun i => if fr.getD i false then 2 else if ins.getD i false then 1 else 0
theorem zL_succ (ins : List Bool) (k : Nat) : iv (zL ins (k + 1)) = iv (zL ins k) ++ [.int .i64 (if ins.getD k false then 1 else 0)] := by simp [zL, List.range_succ]
theorem yL_succ (ins fr : List Bool) (k : Nat) : iv (yL ins fr (k + 1)) = iv (yL ins fr k) ++ [.int .i64 (if fr.getD k false then 2 else if ins.getD k false then 1 else 0)] := by simp [yL, List.range_succ]
theorem zL_len (ins : List Bool) (k : Nat) : (zL ins k).length = k := by simp [zL]
theorem yL_len (ins fr : List Bool) (k : Nat) : (yL ins fr k).length = k := by simp [yL]
theorem getD_at {ins : List Bool} {i : Nat} (h : i < ins.length) : ins.getD i false = ins[i] := by simp [List.getD_eq_getElem?_getD, List.getElem?_eq_getElem h]
theorem three_rel {n : Int} {gs : List (Int × Int)} {l : Int} {ins : List Bool} (fr : List Bool) (k : Nat) (hr : Gm.rightB n gs = true) (hl : Gm.litB n gs.length l = true) (hk : (k : Int) = n) (hn : ins.length = k) :
    Em.Ag (Em.threeS n gs l (yL ins fr k)) (Em.evalB n gs l ins) ∧ Em.Eq3 (Em.threeS n gs l (zL ins k)) (Em.evalB n gs l ins) := by
  refine ⟨Em.three_ag hr hl (by rw [yL_len]; exact hk) (by omega) fun i h1 h2 => ?_, Em.three_eq hr hl (by rw [zL_len]; exact hk) (by omega) fun i h1 h2 => ?_⟩
  · simp only [yL, List.getElem_map, List.getElem_range]
    rw [getD_at h2]
    split
    · exact Or.inl rfl
    · cases ins[i] <;> exact Or.inr rfl
  · simp only [zL, List.getElem_map, List.getElem_range]
    rw [getD_at h2]
    cases ins[i] <;> rfl

set_option maxRecDepth 100000 in
set_option maxHeartbeats 16000000 in
theorem evalThree_walk (a0 : Int) (A0 : Option Addr) (c0 : Nat) (zs : List Int) (a2 a3 : Int) (w : World) (h0 : 0 ≤ a0) (h0' : a0 ≤ 255) (hm : zs.length ≤ maxLen) (hU : Us w w.heap.size A0 zs) (h2 : 0 ≤ a2) (h2' : a2 ≤ 255) (h3 : 0 ≤ a3) (h3' : a3 ≤ 255) (hT : Tabs w) :
    Calls Tryd.prog 5 #[.int .u8 a0, .slice A0 zs.length c0, .int .u8 a2, .int .u8 a3] w fun e w' => e = .returned (.bool true) ∧ Below w.heap.size w w' := by
  have HAW := Lib.hid (awake2_any w hT)
  have hnot : ∀ (x : Bool) (w : World), (Op.unary .not (.bool x)).run Tryd.prog w = .ok (.bool (!x)) w := fun _ _ => rfl
  have HMD := Lib.hid (fun V hV => made_any (a0 % 7) A0 c0 zs V (by omega) (by omega) hm hV)
  clear hm
  go_enter Tryd.func5, Tryd.ntmps5
  go_wp2_with fail
  refine HAW.out.mono ?_
  rintro e w0 ⟨rfl, lo⟩
  go_wp2_with fail
  have hn0 : 0 ≤ a0 % 7 := by omega
  have hn6 : a0 % 7 ≤ 6 := by omega
  generalize a0 % 7 = n at *
  obtain ⟨m, rfl⟩ := Int.eq_ofNat_of_zero_le hn0
  refine (HMD.out w0 ((hU.below lo (Nat.le_refl _)).more lo.size)).mono ?_
  rintro e w1 ⟨A, c, gs, last, rfl, hG, hgood, hb1⟩
  have g0 := GX.new (n := (m : Int)) (c := c) (l := gs.length) hG 24
  replace lo := (lo.trans (hb1.mono lo.size)).alloc (Nat.le_trans lo.size hb1.size) (Obj.cells #[.int .i64 m, .slice A gs.length c] 24)
  obtain ⟨hr, hfew, hwf, hlit⟩ := hgood
  clear HMD hG hb1 HAW
  go_upto_region 5 with fail
  generalize w1.alloc (Obj.cells #[.int .i64 m, .slice A gs.length c] 24) = V at *
  have k0 := g0.c0
  have k1 := g0.c1
  go_wp2_with fail
  refine (bits_any a2 m V h2 (by omega) (by omega)).mono ?_
  rintro e w2 ⟨Ai, ci, rfl, hVi, hb2⟩
  replace g0 := g0.below hb2
  replace lo := lo.trans (hb2.mono lo.size)
  clear k0 k1 hb2
  have k0 := g0.c0
  have k1 := g0.c1
  have hil := bitsB_length a2 m
  generalize bitsB a2 m = ins at *
  have HIL := Lib.hid hil
  clear hil
  go_wp2_with fail
  refine (bits_any a3 m w2 h3 (by omega) (by omega)).mono ?_
  rintro e w3 ⟨Af, cf, rfl, hVf, hb3⟩
  replace g0 := g0.below hb3
  replace lo := lo.trans (hb3.mono lo.size)
  replace hVi := (hVi.below hb3 (Nat.le_refl _)).more hb3.size
  clear k0 k1 hb3
  have hfl := bitsB_length a3 m
  generalize bitsB a3 m = fr at *
  have HFL := Lib.hid hfl
  clear hfl
  go_wp2_with fail
  go_loopw [14, 15, 16] (fun vy vz i wr => ∃ k : Nat, k ≤ m ∧ i = .int .i64 k ∧ T2 w3 wr 3 vz vy (iv (zL ins k)) (iv (yL ins fr k))) (fun _ _ i _ => m - (intOf i).toNat)
  case atStart => exact ⟨0, Nat.zero_le _, rfl, T2.start _ _⟩
  case round =>
    obtain ⟨k, hkl, rfl, T⟩ := hrel
    have g1 := g0.below T.low
    have k0 := g1.c0
    have k1 := g1.c1
    by_cases hlt : k < m
    · have hil := HIL.out
      have hfl := HFL.out
      obtain ⟨bi, offi, hA, hbi, qi⟩ := hVi.bool k (by omega)
      subst hA
      obtain ⟨bf, off, hA, hbf, qf⟩ := hVf.bool k (by omega)
      subst hA
      have hxi := ixB bi offi ins.length ci k (by omega) (by omega)
      have hxf := ixB bf off fr.length cf k (by omega) (by omega)
      have qi1 := (T.low.cell (p := ⟨bi, offi + k, none⟩) hbi).trans qi
      have hzs := Lib.hid (zL_succ ins k)
      have hys := Lib.hid (yL_succ ins fr k)
      have HLx := Lib.hid (show (iv (zL ins k)).length + 1 ≤ 2000000 by simp [zL_len]; omega)
      have HLy := Lib.hid (show (iv (yL ins fr k)).length + 1 ≤ 2000000 by simp [yL_len]; omega)
      generalize ins.getD k false = xb at *
      generalize fr.getD k false = fb at *
      clear qi hil hfl
      cases xb <;> cases fb
      · go_wp2_with (first | (at_builtin; (refine wpList_ints rfl (.tmp 52) (.tmp 54) rfl w3.heap.size _ _ (iv (zL ins k)) [.int .i64 (0)] rfl (T.alloc _).ox _ _ _ rfl rfl (vs_one _ _ _) (one_int _) HLx.out (T.alloc _).base ?_); intro vx' wx hox hgx hsx; have T' := (T.alloc _).step hox hgx hsx; have qf1 := (T'.low.cell (p := ⟨bf, off + k, none⟩) hbf).trans qf) | (at_builtin; (refine wpList_ints rfl (.tmp 60) (.tmp 62) rfl w3.heap.size _ _ (iv (yL ins fr k)) [.int .i64 (0)] rfl (T'.alloc _).oy _ _ _ rfl rfl (vs_one _ _ _) (one_int _) HLy.out (T'.alloc _).base ?_); intro vy' wy hoy hgy hsy))
        go_roundw
        case rel => exact ⟨k + 1, by omega, by go_num, by rw [hzs.out, hys.out]; exact ((T'.alloc _).swap.step hoy hgy hsy).swap⟩
        case measure => simp [intOf]; omega
      · go_wp2_with (first | (at_builtin; (refine wpList_ints rfl (.tmp 52) (.tmp 54) rfl w3.heap.size _ _ (iv (zL ins k)) [.int .i64 (0)] rfl (T.alloc _).ox _ _ _ rfl rfl (vs_one _ _ _) (one_int _) HLx.out (T.alloc _).base ?_); intro vx' wx hox hgx hsx; have T' := (T.alloc _).step hox hgx hsx; have qf1 := (T'.low.cell (p := ⟨bf, off + k, none⟩) hbf).trans qf) | (at_builtin; (refine wpList_ints rfl (.tmp 60) (.tmp 62) rfl w3.heap.size _ _ (iv (yL ins fr k)) [.int .i64 (2)] rfl (T'.alloc _).oy _ _ _ rfl rfl (vs_one _ _ _) (one_int _) HLy.out (T'.alloc _).base ?_); intro vy' wy hoy hgy hsy))
        go_roundw
        case rel => exact ⟨k + 1, by omega, by go_num, by rw [hzs.out, hys.out]; exact ((T'.alloc _).swap.step hoy hgy hsy).swap⟩
        case measure => simp [intOf]; omega
      · go_wp2_with (first | (at_builtin; (refine wpList_ints rfl (.tmp 52) (.tmp 54) rfl w3.heap.size _ _ (iv (zL ins k)) [.int .i64 (1)] rfl (T.alloc _).ox _ _ _ rfl rfl (vs_one _ _ _) (one_int _) HLx.out (T.alloc _).base ?_); intro vx' wx hox hgx hsx; have T' := (T.alloc _).step hox hgx hsx; have qf1 := (T'.low.cell (p := ⟨bf, off + k, none⟩) hbf).trans qf) | (at_builtin; (refine wpList_ints rfl (.tmp 60) (.tmp 62) rfl w3.heap.size _ _ (iv (yL ins fr k)) [.int .i64 (1)] rfl (T'.alloc _).oy _ _ _ rfl rfl (vs_one _ _ _) (one_int _) HLy.out (T'.alloc _).base ?_); intro vy' wy hoy hgy hsy))
        go_roundw
        case rel => exact ⟨k + 1, by omega, by go_num, by rw [hzs.out, hys.out]; exact ((T'.alloc _).swap.step hoy hgy hsy).swap⟩
        case measure => simp [intOf]; omega
      · go_wp2_with (first | (at_builtin; (refine wpList_ints rfl (.tmp 52) (.tmp 54) rfl w3.heap.size _ _ (iv (zL ins k)) [.int .i64 (1)] rfl (T.alloc _).ox _ _ _ rfl rfl (vs_one _ _ _) (one_int _) HLx.out (T.alloc _).base ?_); intro vx' wx hox hgx hsx; have T' := (T.alloc _).step hox hgx hsx; have qf1 := (T'.low.cell (p := ⟨bf, off + k, none⟩) hbf).trans qf) | (at_builtin; (refine wpList_ints rfl (.tmp 60) (.tmp 62) rfl w3.heap.size _ _ (iv (yL ins fr k)) [.int .i64 (2)] rfl (T'.alloc _).oy _ _ _ rfl rfl (vs_one _ _ _) (one_int _) HLy.out (T'.alloc _).base ?_); intro vy' wy hoy hgy hsy))
        go_roundw
        case rel => exact ⟨k + 1, by omega, by go_num, by rw [hzs.out, hys.out]; exact ((T'.alloc _).swap.step hoy hgy hsy).swap⟩
        case measure => simp [intOf]; omega
    · have hkk : k = m := by omega
      subst hkk
      obtain ⟨Az, cz, hvz, hVz⟩ := T.ox.vs
      obtain ⟨Ay, cy, hvy, hVy⟩ := T.oy.vs
      rw [List.length_map] at hvz hvy
      subst hvz hvy
      have loU := lo.trans (T.low.mono lo.size)
      have hTU := hT.below loU hT.sz
      have hVi1 := (hVi.below T.low (Nat.le_refl _)).more T.low.size
      have hrf := right_facts hr
      have CY := Lib.hid (fun V h q t => Three_any k A c gs last Ay cy (yL ins fr k) V (by omega) (by rw [yL_len]; omega) h hwf q t)
      have CZ := Lib.hid (fun V h q t => Three_any k A c gs last Az cz (zL ins k) V (by omega) (by rw [zL_len]; omega) h hwf q t)
      have CE := Lib.hid (fun V h q => eval_any k A c gs last Ai ci ins V (by omega) (by rw [HIL.out]; omega) h hwf q)
      have HRL := Lib.hid (three_rel (l := last) (ins := ins) fr k hr hlit rfl HIL.out)
      generalize Em.threeS k gs last (yL ins fr k) = a at *
      generalize Em.threeS k gs last (zL ins k) = b at *
      generalize Em.evalB k gs last ins = s at *
      clear T hVi hVf g0 hrf
      go_upto_region 18 with fail
      have lx := (Below.refl wr.heap.size wr).drew
      go_region_held3 (fun W => W.cell? ⟨w1.heap.size, 0, none⟩ = some (.int .i64 k) ∧ W.cell? ⟨w1.heap.size, 1, none⟩ = some (.slice A gs.length c))
        (exact ⟨(g1.below lx).c0, (g1.below lx).c1⟩)
        (first | (go_at_call 15; (with_reducible refine (CY.out _ (g1.below lx).gr ((hVy.below lx (Nat.le_refl _)).more lx.size) (hTU.below lx hTU.sz)).mono ?_); rintro e wn ⟨rfl, hbn⟩; replace lx := lx.trans (hbn.mono lx.size))
               | (go_at_call 15; (with_reducible refine (CZ.out _ (g1.below lx).gr ((hVz.below lx (Nat.le_refl _)).more lx.size) (hTU.below lx hTU.sz)).mono ?_); rintro e wn ⟨rfl, hbn⟩; replace lx := lx.trans (hbn.mono lx.size))
               | (go_at_call 13; (with_reducible refine (CE.out _ (g1.below lx).gr ((hVi1.below lx (Nat.le_refl _)).more lx.size)).mono ?_); rintro e wn ⟨rfl, hbn⟩; replace lx := lx.trans (hbn.mono lx.size)))
      obtain ⟨hag, heq⟩ := HRL.out
      unfold Em.Ag at hag
      unfold Em.Eq3 at heq
      subst heq
      cases s <;> rcases hag with rfl | rfl <;>
      · go_wp2
        go_ret
        exact ⟨rfl, loU.trans (lx.mono loU.size)⟩
end Go.Proofs.YtpbbjklacgkcgaaDoor
