/- ConeMade, walked. -/
import Derived.Test.YtjjdgiondpnpcaaCU
import Derived.Test.YtjjdgiondpnpcaaRH
namespace Go.Proofs.Ytjjdgiondpnpcaa
open Go.RowKit

/-- The numbers that the inputs correspond to. -/
def xselm (bys : List Int) (i : Nat) : Int := if i < bys.length then bys.getD i 0 else i
def bLm (bys : List Int) (M : Int) (k : Nat) : List Int := (List.range k).map fun i => xselm bys i % M
theorem bLm_succ (bys : List Int) (M : Int) (k : Nat) : iv (bLm bys M (k + 1)) = iv (bLm bys M k) ++ [.int .i64 (xselm bys k % M)] := by simp [bLm, List.range_succ]
theorem bLm_len (bys : List Int) (M : Int) (k : Nat) : (bLm bys M k).length = k := by simp [bLm]
theorem bLm_le (bys : List Int) (M : Int) (k : Nat) (h0 : 0 < M) (h1 : M ≤ 1000000) : ∀ x ∈ bLm bys M k, x ≤ 9223372036854775807 := by
  intro x hx
  obtain ⟨i, _, rfl⟩ := List.mem_map.1 hx
  have := Int.emod_lt_of_pos (xselm bys i) h0
  omega
theorem RowInv.belowR {w wr w2 : World} {e : TypeId} {v : Value} {vs : List Value} (h : RowInv w wr e v vs) (hb : Below wr.heap.size wr w2) : RowInv w w2 e v vs := ⟨h.low.trans (hb.mono h.low.size), h.own.below hb⟩

set_option maxRecDepth 100000 in
set_option maxHeartbeats 16000000 in
theorem coneMade_walk (a0 : Int) (A0 : Option Addr) (c0 : Nat) (zs : List Int) (a2 : Int) (A3 : Option Addr) (c3 : Nat) (ks : List Int) (A4 : Option Addr) (c4 : Nat) (bys : List Int) (a5 : Int) (a6 : Bool) (w : World) (h0 : 0 ≤ a0) (h0' : a0 ≤ 255) (hm : zs.length ≤ maxLen) (hU : Us w w.heap.size A0 zs) (h2 : 0 ≤ a2) (h2' : a2 ≤ 255) (hm3 : ks.length ≤ maxLen) (hU3 : Us w w.heap.size A3 ks) (hm4 : bys.length ≤ maxLen) (hU4 : Ub w w.heap.size A4 bys) (h5 : 0 ≤ a5) (h5' : a5 ≤ 255) :
    Calls Try.prog 3 #[.int .u8 a0, .slice A0 zs.length c0, .int .u8 a2, .slice A3 ks.length c3, .slice A4 bys.length c4, .int .u8 a5, .bool a6] w fun e w' => e = .returned (.bool true) ∧ Below w.heap.size w w' := by
  unfold maxLen at hm4
  have HMT := Lib.hid (fun V hV => made_any (a2 % 7) A3 c3 ks V (by omega) (by omega) hm3 hV)
  clear hm3
  have HAW := Lib.hid (fun V => awake3_any V)
  have HMD := Lib.hid (made_any (a0 % 7) A0 c0 zs w (by omega) (by omega) hm hU)
  clear hm
  go_enter Try.func3, Try.ntmps3
  go_wp2_with fail
  have hn0 : 0 ≤ a0 % 7 := by omega
  have hn6 : a0 % 7 ≤ 6 := by omega
  generalize a0 % 7 = n at *
  obtain ⟨m, rfl⟩ := Int.eq_ofNat_of_zero_le hn0
  refine HMD.out.mono ?_
  rintro e w1 ⟨A, c, gs, last, rfl, hG, hgood, hb1⟩
  have g0 := GX.new (n := (m : Int)) (c := c) (l := gs.length) hG 26
  have lo := hb1.alloc hb1.size (Obj.cells #[.int .i64 m, .slice A gs.length c] 26)
  obtain ⟨hr, hfew, hwf, hlit⟩ := hgood
  clear HMD hG hb1
  go_upto_region 2 with fail
  generalize w1.alloc (Obj.cells #[.int .i64 m, .slice A gs.length c] 26) = V at *
  have k0 := g0.c0
  have k1 := g0.c1
  obtain ⟨hr0, hr1, hr2, _⟩ := right_facts hr
  go_wp2_with fail
  have hn7 : 0 ≤ a2 % 7 := by omega
  have hn8 : a2 % 7 ≤ 6 := by omega
  generalize a2 % 7 = n2 at *
  obtain ⟨nt, rfl⟩ := Int.eq_ofNat_of_zero_le hn7
  refine (HMT.out V ((hU3.below lo (Nat.le_refl _)).more lo.size)).mono ?_
  rintro e w2 ⟨At, ct, tg, last2, rfl, hG2, hgood2, hb2⟩
  obtain ⟨hrt, hfewt, hwt, _⟩ := hgood2
  simp only
  have j0 := GX.new (n := (nt : Int)) (c := ct) (l := tg.length) hG2 26
  have l2 := hb2.alloc hb2.size (Obj.cells #[.int .i64 nt, .slice At tg.length ct] 26)
  replace g0 := g0.below l2
  replace lo := lo.trans (l2.mono lo.size)
  obtain ⟨ht0, ht1, ht2, _⟩ := right_facts hrt
  clear HMT hG2 hb2 l2 k0 k1
  go_upto_region 3 with fail
  generalize w2.alloc (Obj.cells #[.int .i64 nt, .slice At tg.length ct] 26) = V2 at *
  have hM0 : 0 < (2 * ((nt : Int) + 1 + (tg.length : Int))) := by omega
  have hll := lit_facts hlit
  have HS : Hid (∀ (ls : List Int) V Ab cb, ls.length ≤ 1000 → (∀ x ∈ ls, x ≤ 9223372036854775807) → Gr V V.heap.size At tg → Gr V V.heap.size A gs → Vs V V.heap.size Ab (iv ls) → Calls Try.prog 8 #[.agg #[.int .i64 nt, .slice At tg.length ct], .agg #[.int .i64 m, .slice A gs.length c], .int .i64 last, .slice Ab ls.length cb, .int .i64 (a5 % 8), .bool a6] V fun e w' => e = .returned (.bool true) ∧ Below V.heap.size V w') :=
    fun ls V Ab cb h1 h2 g1 g2 g3 => same3_any nt At ct tg m A c gs last Ab cb ls (a5 % 8) a6 V (by omega) (by omega) h1 g1 g2 g3 hwt hwf (by omega) h2
  have HBX := Lib.hid (bLm_le bys (2 * ((nt : Int) + 1 + (tg.length : Int))) m hM0 (by omega))
  clear hll hlit hr hrt hwf hwt
  go_wp2_with fail
  go_loopw [19, 20] (fun vb i wr => ∃ k : Nat, k ≤ m ∧ i = .int .i64 k ∧ RowInv V2 wr 3 vb (iv (bLm bys (2 * ((nt : Int) + 1 + (tg.length : Int))) k))) (fun _ i _ => m - (intOf i).toNat)
  case atStart => exact ⟨0, Nat.zero_le _, rfl, Below.refl _ _, OwnV.nil _ _ _⟩
  case round =>
    obtain ⟨k, hkl, rfl, T⟩ := hrel
    by_cases hlt : k < m
    · have g1 := g0.below T.low
      have j1 := j0.below T.low
      have k0 := g1.c0
      have k1 := g1.c1
      have k2 := j1.c0
      have k3 := j1.c1
      have HBS := Lib.hid (bLm_succ bys (2 * ((nt : Int) + 1 + (tg.length : Int))) k)
      have HLx := Lib.hid (show (iv (bLm bys (2 * ((nt : Int) + 1 + (tg.length : Int))) k)).length + 1 ≤ 2000000 by simp [bLm_len]; omega)
      have HVR : Hid (∀ V, Calls Try.prog 6 #[.agg #[.int .i64 nt, .slice At tg.length ct]] V fun e w' => e = .returned (.int .i64 (nt + 1 + tg.length)) ∧ Below V.heap.size V w') := fun V => refVars_any nt At tg.length ct V ht0 ht1 (by omega)
      by_cases hkb : k < bys.length
      · have hks : xselm bys k = bys[k] := by unfold xselm; rw [if_pos hkb]; simp [List.getD_eq_getElem?_getD, List.getElem?_eq_getElem hkb]
        rw [hks] at HBS
        obtain ⟨bb, ob, hA, hbb, qb, hq0, hq1⟩ := (hU4.below (lo.trans (T.low.mono lo.size)) (Nat.le_refl _)) k hkb
        subst hA
        have hix := ixU8 bb ob bys.length c4 k (by omega) hkb
        have hdk : decide ((k : Int) < (bys.length : Int)) = true := by simp; omega
        clear hks
        generalize bys[k] = z at *
        go_wp2_with (first | (go_at_call 6; refine (HVR.out _).mono ?_; rintro e w5 ⟨rfl, hb5⟩; replace T := T.belowR hb5; clear g1 j1 k0 k1 k2 k3) | (at_builtin; (refine wpList_ints rfl (.tmp 54) (.tmp 60) rfl V2.heap.size _ _ (iv (bLm bys (2 * ((nt : Int) + 1 + (tg.length : Int))) k)) [.int .i64 (z % (2 * ((nt : Int) + 1 + (tg.length : Int))))] rfl (T.own.alloc _) _ _ _ rfl rfl (vs_one _ _ _) (one_int _) HLx.out (Nat.le_trans T.low.size (by simp)) ?_); intro vx' wx hox hgx _))
        go_roundw
        case rel => exact ⟨k + 1, by omega, by go_num, T.next (by rw [HBS.out]; exact hox) hgx⟩
        case measure => simp [intOf]; omega
      · have hks : xselm bys k = (k : Int) := by unfold xselm; rw [if_neg hkb]
        rw [hks] at HBS
        have hdk : decide ((k : Int) < (bys.length : Int)) = false := by simp; omega
        clear hks
        go_wp2_with (first | (go_at_call 6; refine (HVR.out _).mono ?_; rintro e w5 ⟨rfl, hb5⟩; replace T := T.belowR hb5; clear g1 j1 k0 k1 k2 k3) | (at_builtin; (refine wpList_ints rfl (.tmp 54) (.tmp 60) rfl V2.heap.size _ _ (iv (bLm bys (2 * ((nt : Int) + 1 + (tg.length : Int))) k)) [.int .i64 ((k : Int) % (2 * ((nt : Int) + 1 + (tg.length : Int))))] rfl (T.own.alloc _) _ _ _ rfl rfl (vs_one _ _ _) (one_int _) HLx.out (Nat.le_trans T.low.size (by simp)) ?_); intro vx' wx hox hgx _))
        go_roundw
        case rel => exact ⟨k + 1, by omega, by go_num, T.next (by rw [HBS.out]; exact hox) hgx⟩
        case measure => simp [intOf]; omega
    · obtain rfl : k = m := by omega
      have k0' := (g0.below T.low).c0
      have HLL0 := Lib.hid (bLm_len bys (2 * ((nt : Int) + 1 + (tg.length : Int))) k)
      generalize bLm bys (2 * ((nt : Int) + 1 + (tg.length : Int))) k = ls at *
      by_cases h20 : bys.length ≤ 20
      · have hd : decide ((20 : Int) < (bys.length : Int)) = false := by simp; omega
        have HLL : Hid (ls.length ≤ 1000) := by unfold Hid; have := HLL0.out; omega
        have HLX : Hid (∀ x ∈ ls, x ≤ 9223372036854775807) := HBX.out
        clear h20
        go_upto_region 11 with fail
        clear k0'
        go_upto_region 13 with fail
        have g2 := g0.below (T.low)
        have j2 := j0.below (T.low)
        replace lo := lo.trans (T.low.mono lo.size)
        obtain ⟨Ab, cb, hvb, hVb⟩ := T.own.vs
        rw [List.length_map] at hvb
        subst hvb
        have k0 := g2.c0
        have k1 := g2.c1
        have k2 := j2.c0
        have k3 := j2.c1
        clear T g0 j0
        go_wp2_with fail
        refine (HAW.out _).mono ?_
        rintro e w6 ⟨rfl, hb6⟩
        replace g2 := g2.below hb6
        replace j2 := j2.below hb6
        replace lo := lo.trans (hb6.mono lo.size)
        replace hVb := (hVb.below hb6 (Nat.le_refl _)).more hb6.size
        clear k0 k1 k2 k3 hb6
        have k0 := g2.c0
        have k1 := g2.c1
        have k2 := j2.c0
        have k3 := j2.c1
        go_wp2_with fail
        refine (HS.out _ w6 Ab cb HLL.out HLX.out j2.gr g2.gr hVb).mono ?_
        rintro e w7 ⟨rfl, hb7⟩
        clear k0 k1 k2 k3 HS HAW HLL HLX hVb g2 j2
        go_wp2_with fail
        go_ret
        exact ⟨rfl, lo.trans (hb7.mono lo.size)⟩
      · have hd : decide ((20 : Int) < (bys.length : Int)) = true := by simp; omega
        have HLL : Hid ((ls ++ [1]).length ≤ 1000) := by unfold Hid; have := HLL0.out; simp; omega
        have HLX : Hid (∀ x ∈ ls ++ [1], x ≤ 9223372036854775807) := fun x hx => by
          rcases List.mem_append.1 hx with h | h
          · exact HBX.out x h
          · simp at h; omega
        have HLx := Lib.hid (show (iv ls).length + 1 ≤ 2000000 by have := HLL0.out; simp [iv]; omega)
        clear h20
        go_upto_region 11 with fail
        clear k0'
        go_upto_region 13 with (at_builtin; (refine wpList_ints rfl (.tmp 65) (.tmp 66) rfl V2.heap.size _ _ (iv ls) [.int .i64 1] rfl (T.own.alloc _) _ _ _ rfl rfl (vs_one _ _ _) (one_int _) HLx.out (Nat.le_trans T.low.size (by simp)) ?_); intro vx' wx hox hgx _)
        replace T : RowInv V2 wx 3 vx' (iv (ls ++ [1])) := T.next (by rw [iv, List.map_append]; exact hox) hgx
        clear hox hgx HBX HLL0 HLx
        generalize ls ++ [1] = ls2 at *
        have g2 := g0.below (T.low)
        have j2 := j0.below (T.low)
        replace lo := lo.trans (T.low.mono lo.size)
        obtain ⟨Ab, cb, hvb, hVb⟩ := T.own.vs
        rw [List.length_map] at hvb
        subst hvb
        have k0 := g2.c0
        have k1 := g2.c1
        have k2 := j2.c0
        have k3 := j2.c1
        clear T g0 j0
        go_wp2_with fail
        refine (HAW.out _).mono ?_
        rintro e w6 ⟨rfl, hb6⟩
        replace g2 := g2.below hb6
        replace j2 := j2.below hb6
        replace lo := lo.trans (hb6.mono lo.size)
        replace hVb := (hVb.below hb6 (Nat.le_refl _)).more hb6.size
        clear k0 k1 k2 k3 hb6
        have k0 := g2.c0
        have k1 := g2.c1
        have k2 := j2.c0
        have k3 := j2.c1
        go_wp2_with fail
        refine (HS.out _ w6 Ab cb HLL.out HLX.out j2.gr g2.gr hVb).mono ?_
        rintro e w7 ⟨rfl, hb7⟩
        clear k0 k1 k2 k3 HS HAW HLL HLX hVb g2 j2
        go_wp2_with fail
        go_ret
        exact ⟨rfl, lo.trans (hb7.mono lo.size)⟩
end Go.Proofs.Ytjjdgiondpnpcaa
