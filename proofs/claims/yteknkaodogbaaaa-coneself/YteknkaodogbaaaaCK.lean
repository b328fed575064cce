/- ConeSelf, walked. -/
import Derived.Test.YteknkaodogbaaaaCJ
namespace Go.Proofs.Yteknkaodogbaaaa
open Go.RowKit

theorem selfBy_succ (k : Nat) : iv (Cm.selfBy (k + 1)) = iv (Cm.selfBy k) ++ [.int .i64 (2 * ((k : Int) + 1))] := by simp [Cm.selfBy, iv, List.range_succ]

set_option maxRecDepth 100000 in
set_option maxHeartbeats 16000000 in
theorem coneSelf_walk (a0 : Int) (A0 : Option Addr) (c0 : Nat) (zs : List Int) (a2 : Int) (w : World) (h0 : 0 ≤ a0) (h0' : a0 ≤ 255) (hm : zs.length ≤ maxLen) (hU : Us w w.heap.size A0 zs) (h2 : 0 ≤ a2) (h2' : a2 ≤ 255) :
    Calls Try.prog 6 #[.int .u8 a0, .slice A0 zs.length c0, .int .u8 a2] w fun e w' => e = .returned (.bool true) ∧ Below w.heap.size w w' := by
  have HAW := Lib.hid (awake3_any w)
  have hnot : ∀ (x : Bool) (w : World), (Op.unary .not (.bool x)).run Try.prog w = .ok (.bool (!x)) w := fun _ _ => rfl
  have HMD := Lib.hid (fun V hV => made_any (a0 % 7) A0 c0 zs V (by omega) (by omega) hm hV)
  clear hm
  go_enter Try.func6, Try.ntmps6
  go_wp2_with fail
  refine HAW.out.mono ?_
  rintro e w0 ⟨rfl, lo⟩
  go_wp2_with fail
  have hn0 : 0 ≤ a0 % 7 := by omega
  have hn6 : a0 % 7 ≤ 6 := by omega
  generalize a0 % 7 = n at *
  obtain ⟨m, rfl⟩ := Int.eq_ofNat_of_zero_le hn0
  refine (HMD.out w0 ((hU.below lo (Nat.le_refl _)).more lo.size)).mono ?_
  rintro e w1 ⟨A, c, gs, last, rfl, hG, hgood, hb1⟩
  have g0 := GX.new (n := (m : Int)) (c := c) (l := gs.length) hG 26
  replace lo := (lo.trans (hb1.mono lo.size)).alloc (Nat.le_trans lo.size hb1.size) (Obj.cells #[.int .i64 m, .slice A gs.length c] 26)
  obtain ⟨hr, hfew, hwf, hlit⟩ := hgood
  clear HMD hG hb1 HAW
  go_upto_region 5 with fail
  generalize w1.alloc (Obj.cells #[.int .i64 m, .slice A gs.length c] 26) = V at *
  have k0 := g0.c0
  have k1 := g0.c1
  obtain ⟨hr0, hr1, hr2, _⟩ := right_facts hr
  go_wp2_with fail
  refine (refVars_any m A gs.length c V hr0 hr1 (by omega)).mono ?_
  rintro e w2 ⟨rfl, hb2⟩
  replace g0 := g0.below hb2
  replace lo := lo.trans (hb2.mono lo.size)
  clear k0 k1 hb2
  have hM0 : 0 < 2 * ((m : Int) + 1 + (gs.length : Int)) := by omega
  have hx0 : 0 ≤ a2 % (2 * ((m : Int) + 1 + (gs.length : Int))) := Int.emod_nonneg _ (by omega)
  have hx1 : a2 % (2 * ((m : Int) + 1 + (gs.length : Int))) < 2 * ((m : Int) + 1 + (gs.length : Int)) := Int.emod_lt_of_pos _ hM0
  have hlx : Gm.litB m gs.length (a2 % (2 * ((m : Int) + 1 + (gs.length : Int)))) = true := lit_mk hr0 hr1 hx0 (by omega)
  go_wp2_with fail
  generalize a2 % (2 * ((m : Int) + 1 + (gs.length : Int))) = x at *
  go_loopw [11, 12] (fun v i wr => ∃ k : Nat, k ≤ m ∧ i = .int .i64 ((k : Int) + 1) ∧ RowInv w2 wr 3 v (iv (Cm.selfBy k))) (fun _ i _ => m + 1 - (intOf i).toNat)
  case atStart => exact ⟨0, Nat.zero_le _, rfl, Below.refl _ _, OwnV.nil _ _ _⟩
  case round =>
    obtain ⟨k, hkl, rfl, hinv⟩ := hrel
    have k0 := (hinv.low.cell (p := ⟨w1.heap.size, 0, none⟩) g0.lt).trans g0.c0
    have k1 := (hinv.low.cell (p := ⟨w1.heap.size, 1, none⟩) g0.lt).trans g0.c1
    by_cases hlt : k < m
    · have hsz := hinv.size
      have hown := hinv.own
      have HL := Lib.hid (show (iv (Cm.selfBy k)).length + [Value.int .i64 (2 * ((k : Int) + 1))].length ≤ 2000000 by simp [Cm.selfBy_len]; omega)
      have HK := Lib.hid (selfBy_succ k)
      go_wp2_with (at_builtin; go_loud (refine wpList_ints rfl (.tmp 39) (.tmp 42) rfl w2.heap.size _ _ (iv (Cm.selfBy k)) [.int .i64 (2 * ((k : Int) + 1))] rfl (hown.alloc _) _ _ _ rfl rfl (vs_one _ _ _) (one_int _) HL.out (by simp; omega) ?_); intro v' w' hown' hgr' _)
      go_roundw
      case rel => exact ⟨k + 1, by omega, by go_num, hinv.next (by rw [HK.out]; exact hown') hgr'⟩
      case measure => simp [intOf]; omega
    · obtain rfl : k = m := by omega
      obtain ⟨Ab, cb, hv, hVb⟩ := hinv.own.vs
      rw [List.length_map] at hv
      subst hv
      have g1 := g0.below hinv.low
      have lo1 := lo.trans (hinv.low.mono lo.size)
      have HC := Lib.hid (copy_any k A c gs k A c gs x Ab cb (Cm.selfBy k) wr (by omega) (by omega) (by rw [Cm.selfBy_len]; omega) g1.gr g1.gr hVb hwf hwf)
      rw [Cm.copy_self hr hlx] at HC
      go_wp2_with fail
      refine HC.out.mono ?_
      rintro e w4 ⟨A4, c4, rfl, hG4, hs4, hb4⟩
      simp only
      have l4 := hb4.alloc hb4.size (Obj.cells #[.int .i64 k, .slice A4 gs.length c4] 26)
      have g4 := GX.new (n := (k : Int)) (c := c4) (l := gs.length) hG4 26
      have g2 := g1.below l4
      have lo2 := lo1.trans (l4.mono lo1.size)
      go_upto_region 12 with fail
      clear HC k0 k1 hinv hVb hG4 hs4 hb4 l4 g1 lo1
      generalize w4.alloc (Obj.cells #[.int .i64 k, .slice A4 gs.length c4] 26) = V4 at *
      have k0 := g2.c0
      have k1 := g2.c1
      have j0 := g4.c0
      have j1 := g4.c1
      have HS := Lib.hid (same_true k A A4 c c4 gs V4 (by omega) g2.gr g4.gr)
      go_wp2_with (go_at_call 18; refine HS.out.mono ?_; rintro e w5 ⟨rfl, hb5⟩)
      go_ret
      exact ⟨rfl, lo2.trans (hb5.mono lo2.size)⟩
end Go.Proofs.Yteknkaodogbaaaa
