/- EvalMade, walked. -/
import Derived.Test.YtpbbjklacgkcgaaDoorEO
import Derived.Test.YtpbbjklacgkcgaaDoorEJs
namespace Go.Proofs.YtpbbjklacgkcgaaDoor
open Go.RowKit

def tL (a : Int) (k : Nat) : List Int := (List.range k).map fun i => (a / 2 ^ (2 * i)).tmod 4
theorem tL_succ (a : Int) (k : Nat) : iv (tL a (k + 1)) = iv (tL a k) ++ [.int .i64 ((a / 2 ^ (2 * k)).tmod 4)] := by simp [tL, List.range_succ]
theorem tL_len (a : Int) (k : Nat) : (tL a k).length = k := by simp [tL]

set_option maxRecDepth 100000 in
set_option maxHeartbeats 16000000 in
theorem evalMade_walk (a0 : Int) (A0 : Option Addr) (c0 : Nat) (zs : List Int) (a2 a3 : Int) (w : World) (h0 : 0 ≤ a0) (h0' : a0 ≤ 255) (hm : zs.length ≤ maxLen) (hU : Us w w.heap.size A0 zs) (h2 : 0 ≤ a2) (h2' : a2 ≤ 255) (h3 : 0 ≤ a3) (h3' : a3 ≤ 65535) (hT : Tabs w) :
    Calls Tryd.prog 4 #[.int .u8 a0, .slice A0 zs.length c0, .int .u8 a2, .int .u16 a3] w fun e w' => e = .returned (.bool true) ∧ Below w.heap.size w w' := by
  have HMD := Lib.hid (made_any (a0 % 7) A0 c0 zs w (by omega) (by omega) hm hU)
  clear hm
  go_enter Tryd.func4, Tryd.ntmps4
  go_wp2_with fail
  have hn0 : 0 ≤ a0 % 7 := by omega
  have hn6 : a0 % 7 ≤ 6 := by omega
  generalize a0 % 7 = n at *
  obtain ⟨m, rfl⟩ := Int.eq_ofNat_of_zero_le hn0
  refine HMD.out.mono ?_
  rintro e w1 ⟨A, c, gs, last, rfl, hG, hgood, hb1⟩
  have g0 := GX.new (n := (m : Int)) (c := c) (l := gs.length) hG 24
  have lo := hb1.alloc hb1.size (Obj.cells #[.int .i64 m, .slice A gs.length c] 24)
  obtain ⟨hr, hfew, hwf, hlit⟩ := hgood
  clear HMD hG hb1
  go_upto_region 2 with fail
  generalize w1.alloc (Obj.cells #[.int .i64 m, .slice A gs.length c] 24) = V at *
  have k0 := g0.c0
  have k1 := g0.c1
  go_wp2_with fail
  refine (bits_any a2 m V h2 (by omega) (by omega)).mono ?_
  rintro e w2 ⟨Ai, ci, rfl, hVi, hb2⟩
  replace g0 := g0.below hb2
  replace lo := lo.trans (hb2.mono lo.size)
  clear k0 k1 hb2
  have hil := bitsB_length a2 m
  generalize bitsB a2 m = ins at *
  have HIL := Lib.hid hil
  clear hil
  go_wp2_with fail
  go_loopw [12, 13] (fun vy i wr => ∃ k : Nat, k ≤ m ∧ i = .int .i64 k ∧ RowInv w2 wr 3 vy (iv (tL a3 k))) (fun _ i _ => m - (intOf i).toNat)
  case atStart => exact ⟨0, Nat.zero_le _, rfl, Below.refl _ _, OwnV.nil _ _ _⟩
  case round =>
    obtain ⟨k, hkl, rfl, T⟩ := hrel
    have g1 := g0.below T.low
    have k0 := g1.c0
    have k1 := g1.c1
    by_cases hlt : k < m
    · have hzs := Lib.hid (tL_succ a3 k)
      have HLx := Lib.hid (show (iv (tL a3 k)).length + 1 ≤ 2000000 by simp [tL_len]; omega)
      have hbase := T.size
      have h2k : (2 * (k : Int)).toNat = 2 * k := by omega
      go_wp2_with (at_builtin; go_loud (refine wpList_ints rfl (.tmp 34) (.tmp 41) rfl w2.heap.size _ _ (iv (tL a3 k)) [.int .i64 ((a3 / 2 ^ (2 * k)).tmod 4)] rfl (T.own.alloc _) _ _ _ rfl rfl (vs_one _ _ _) (one_int _) HLx.out (by simp; omega) ?_); intro v' w' hown' hgr' _)
      go_roundw
      case rel => exact ⟨k + 1, by omega, by go_num, T.next (by rw [hzs.out]; exact hown') hgr'⟩
      case measure => simp [intOf]; omega
    · have hkk : k = m := by omega
      subst hkk
      obtain ⟨Ay, cy, hvy, hVy⟩ := T.own.vs
      rw [List.length_map] at hvy
      subst hvy
      have loU := lo.trans (T.low.mono lo.size)
      have hTU := hT.below loU hT.sz
      have hVi1 := (hVi.below T.low (Nat.le_refl _)).more T.low.size
      have hrf := right_facts hr
      have hgl : gs.length ≤ 40 := hfew
      have C1 := Lib.hid (fun z V h q => eval_any k A c gs z Ai ci ins V (by omega) (by rw [HIL.out]; omega) h hwf q)
      have C2 := Lib.hid (fun z V h q (hz : z ≤ 9223372036854775807) => refEval_any k A c gs z Ai ci ins V (by omega) (by rw [HIL.out]; omega) h hwf q hz)
      have C3 := Lib.hid (fun z V h q t => Three_any k A c gs z Ay cy (tL a3 k) V (by omega) (by rw [tL_len]; omega) h hwf q t)
      have C4 := Lib.hid (fun z V h q (hz : z ≤ 9223372036854775807) => refThree_any k A c gs z Ay cy (tL a3 k) V (by omega) (by rw [tL_len]; omega) h hwf q hz)
      have C5 := Lib.hid (fun V h q => all_any k A c gs Ai ci ins V (by omega) (by rw [HIL.out]; omega) h hwf q)
      have C6 := Lib.hid (fun V h q => refAll_any k A c gs Ai ci ins V (by omega) (by rw [HIL.out]; omega) h hwf q)
      have hlen := allB_len (n := (k : Int)) (gs := gs) (ins := ins) (by omega) (by rw [HIL.out]; omega)
      have C7 := Lib.hid (fun Aa ca Ab cb V B1 B2 h q => sameBools_true Aa Ab ca cb (Em.allB k gs ins) V B1 B2 hlen h q)
      generalize Em.allB k gs ins = v at *
      clear T hVi g0 hrf hlen
      go_wp2_with fail
      clear k0 k1
      go_loopw [14] (fun i U => ∃ z : Int, -1 ≤ z ∧ z ≤ 2 * ((k : Int) + 1 + gs.length) + 1 ∧ i = .int .i64 z ∧ Below wr.heap.size wr U) (fun i _ => (2 * ((k : Int) + 1 + gs.length) + 2 - intOf i).toNat)
      case atStart => exact ⟨-1, by omega, by omega, rfl, Below.refl _ _⟩
      case round =>
        rename_i U _
        obtain ⟨z, hz0, hz1, rfl, lx⟩ := hrel
        have gU := g1.below lx
        have k0 := gU.c0
        have k1 := gU.c1
        go_wp2_with fail
        refine (refVars_any k A gs.length c _ (by omega) (by omega) (by omega)).mono ?_
        rintro e w5 ⟨rfl, hb5⟩
        replace lx := lx.trans (hb5.mono lx.size)
        clear k0 k1 hb5 gU
        by_cases hlt : z ≤ 2 * ((k : Int) + 1 + gs.length)
        · have D1 := Lib.hid (C1.out z)
          have D2 := Lib.hid (fun V h q => C2.out z V h q (by omega))
          have D3 := Lib.hid (C3.out z)
          have D4 := Lib.hid (fun V h q => C4.out z V h q (by omega))
          generalize Em.evalB k gs z ins = r at *
          generalize Em.threeS k gs z (tL a3 k) = t at *
          have hrr : (r != r) = false := by simp
          have htt : (t != t) = false := by simp
          go_upto_region 11 with fail
          replace lx := lx.drew
          go_region_held3 (fun W => W.cell? ⟨w1.heap.size, 0, none⟩ = some (.int .i64 k) ∧ W.cell? ⟨w1.heap.size, 1, none⟩ = some (.slice A gs.length c))
            (exact ⟨(g1.below lx).c0, (g1.below lx).c1⟩)
            (first | (go_at_call 13; (with_reducible refine (D1.out _ (g1.below lx).gr ((hVi1.below lx (Nat.le_refl _)).more lx.size)).mono ?_); rintro e wn ⟨rfl, hbn⟩; replace lx := lx.trans (hbn.mono lx.size))
                   | (go_at_call 14; (with_reducible refine (D2.out _ (g1.below lx).gr ((hVi1.below lx (Nat.le_refl _)).more lx.size)).mono ?_); rintro e wn ⟨rfl, hbn⟩; replace lx := lx.trans (hbn.mono lx.size))
                   | (go_at_call 15; (with_reducible refine (D3.out _ (g1.below lx).gr ((hVy.below lx (Nat.le_refl _)).more lx.size) (hTU.below lx hTU.sz)).mono ?_); rintro e wn ⟨rfl, hbn⟩; replace lx := lx.trans (hbn.mono lx.size))
                   | (go_at_call 16; (with_reducible refine (D4.out _ (g1.below lx).gr ((hVy.below lx (Nat.le_refl _)).more lx.size)).mono ?_); rintro e wn ⟨rfl, hbn⟩; replace lx := lx.trans (hbn.mono lx.size)))
          go_wp2
          go_roundw
          case rel => exact ⟨z + 1, by omega, by omega, by go_num, lx⟩
          case measure => simp [intOf]; omega
        · have HAW := Lib.hid (fun V (h : Tabs V) => awake2_any V h)
          go_upto_region 13 with fail
          replace lx := lx.drew
          go_region_held3 (fun W => W.cell? ⟨w1.heap.size, 0, none⟩ = some (.int .i64 k) ∧ W.cell? ⟨w1.heap.size, 1, none⟩ = some (.slice A gs.length c))
            (exact ⟨(g1.below lx).c0, (g1.below lx).c1⟩)
            (first | (go_at_call 9; (with_reducible refine (HAW.out _ (hTU.below lx hTU.sz)).mono ?_); rintro e wn ⟨rfl, hbn⟩; replace lx := lx.trans (hbn.mono lx.size))
                   | (go_at_call 11; (with_reducible refine (C5.out _ (g1.below lx).gr ((hVi1.below lx (Nat.le_refl _)).more lx.size)).mono ?_); rintro e wn ⟨Aa, ca, rfl, hVa, hbn⟩; replace lx := lx.trans (hbn.mono lx.size))
                   | (go_at_call 12; (with_reducible refine (C6.out _ (g1.below lx).gr ((hVi1.below lx (Nat.le_refl _)).more lx.size)).mono ?_); rintro e wn ⟨Ab, cb, rfl, hVb, hbn⟩; replace hVa := (hVa.below hbn (Nat.le_refl _)).more hbn.size; replace lx := lx.trans (hbn.mono lx.size))
                   | (go_at_call 10; (with_reducible refine (C7.out _ _ _ _ _ _ _ hVa hVb).mono ?_); rintro e wn ⟨rfl, mm, rfl⟩; replace lx := below_drewN lx mm))
          go_wp2
          go_ret
          exact ⟨rfl, loU.trans (lx.mono loU.size)⟩
end Go.Proofs.YtpbbjklacgkcgaaDoor
