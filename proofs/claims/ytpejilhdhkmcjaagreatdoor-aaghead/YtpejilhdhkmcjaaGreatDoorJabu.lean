/- AagHead, walked. -/
import Derived.Test.YtpejilhdhkmcjaaGreatDoorJaAl
import Derived.Test.YtpejilhdhkmcjaaGreatDoorJabs
import Derived.Test.YtpejilhdhkmcjaaGreatDoorJabt
namespace Go.Proofs.YtpejilhdhkmcjaaGreatDoor
open Go.RowKit

def hdn (z : Int) : Nat := if z < 60000 then z.toNat % 3 else z.toNat
/-- The first line of the first k numbers. -/
def hdS (zs : List Int) : Nat → Ag.Bs
 | 0 => [97, 97, 103]
 | k + 1 => hdS zs k ++ [32] ++ Ag.num (hdn (zs.getD k 0))
def endT : Ag.Bs := [10, 50, 10, 52, 32, 50, 10]
set_option maxRecDepth 100000 in
set_option maxHeartbeats 8000000 in
theorem aagHead_walk (A : Option Addr) (c : Nat) (zs : List Int) (fin : Bool) (w : World) (hml : zs.length ≤ maxLen) (hU : Us w w.heap.size A zs) (hA : Amb w.heap.size w) :
  Calls Tryz.prog 10 #[.slice A zs.length c, .bool fin] w fun e w' => e = .returned (.bool true) ∧ Below w.heap.size w w' := by
 have hml2 : zs.length ≤ 9223372036854775807 := by
  have : maxLen ≤ 9223372036854775807 := by decide
  omega
 have hmx : 1000 ≤ maxLen := by decide
 have HHL : Hid (∀ k, k ≤ 12 → (hdS zs k).length ≤ 3 + 7 * k) := by
  intro k
  induction k with
  | zero => intro _; simp [hdS]
  | succ k ih =>
   intro hk
   have hz : hdn (zs.getD k 0) ≤ 999999 := by
    by_cases hlt : k < zs.length
    ·
     obtain ⟨_, _, _, _, _, g2, g3⟩ := hU k hlt
     have : zs.getD k 0 = zs[k] := by rw [List.getD_eq_getElem?_getD, List.getElem?_eq_getElem hlt]; rfl
     rw [this]
     unfold hdn
     split <;> omega
    rw [List.getD_eq_getElem?_getD, List.getElem?_eq_none (by omega)]
    decide
   have h6 := Ag.num_len 5 (hdn (zs.getD k 0)) (by omega)
   have := ih (by omega)
   simp only [hdS, List.length_append, List.length_cons, List.length_nil]
   omega
 clear hml
 have HA := Lib.hid hA
 clear hA
 go_enter Tryz.func10, Tryz.ntmps10
 go_upto_block 0 with fail
 go_cut [5, 6, 7] from 8 (fun s _ _ wx => ∃ T : Ag.Bs, s = .string (bsv T) ∧ T.length ≤ 100 ∧ Below w.heap.size w wx)
 case first =>
  go_wp2_with fail
  go_loopw [5, 6, 7] (fun t i _ wr => ∃ k : Nat, k ≤ zs.length ∧ k ≤ 12 ∧ i = .int .i64 (k : Int) ∧ t = .string (bsv (hdS zs k)) ∧ Below w.heap.size w wr) (fun _ i _ _ => 12 - (intOf i).toNat)
  case atStart => exact ⟨0, Nat.zero_le _, Nat.zero_le _, rfl, rfl, Below.refl _ _⟩
  obtain ⟨k, hk, hk20, rfl, rfl, lo⟩ := hrel
  have hsl := HHL.out k hk20
  by_cases hlt : k < zs.length
  ·
   have dl : decide ((k : Int) < (zs.length : Int)) = true := decide_eq_true (by omega)
   by_cases h20 : k < 12
   ·
    have d20 : decide ((k : Int) < 12) = true := decide_eq_true (by omega)
    obtain ⟨b, off, rfl, _, g1, g2, g3⟩ := (hU.below lo (Nat.le_refl _)) k hlt
    have hix := ixU b off zs.length c k hml2 hlt
    have hgd : zs.getD k 0 = zs[k] := by rw [List.getD_eq_getElem?_getD, List.getElem?_eq_getElem hlt]; rfl
    have hnl : (hdS zs (k + 1)).length ≤ 3 + 7 * (k + 1) := HHL.out (k + 1) (by omega)
    simp only [hdS, hgd, List.length_append, List.length_cons, List.length_nil] at hnl
    have HT : Hid (hdS zs (k + 1) = hdS zs k ++ [32] ++ Ag.num (hdn zs[k])) := by
     unfold Hid
     rw [hdS, hgd]
    generalize zs[k] = z at *
    clear hgd
    obtain ⟨m', rfl⟩ : ∃ m' : Nat, z = (m' : Int) := ⟨z.toNat, by omega⟩
    by_cases hz : (m' : Int) < 60000
    ·
     skip
     have HNO : Hid (hdn (m' : Int) = (m' % 3)) := by unfold Hid hdn; rw [if_pos hz]; simp
     have e : (m' : Int).tmod 3 = ((m' % 3 : Nat) : Int) := by
      rw [Int.tmod_eq_emod_of_nonneg (Int.natCast_nonneg _)]
      exact (Int.natCast_emod _ _).symm
     have dz : decide ((m' : Int) < 60000) = true := decide_eq_true hz
     rw [HNO.out] at HT hnl
     have HDG := Lib.hid (digits_any (m' % 3) wr (by omega))
     clear hz HNO
     generalize m' % 3 = n at *
     have ha1 := add_bsv (hdS zs k) [32] (by simp; omega)
     have ha2 := add_bsv (hdS zs k ++ [32]) (Ag.num n) (by simp; omega)
     rw [show bsv [32] = ⟨#[32]⟩ from rfl] at ha1
     generalize hdS zs k = u at *
     go_wp2_with fail
     refine HDG.out.mono ?_
     rintro e w2 ⟨rfl, hb2⟩
     have lo2 := lo.trans (hb2.mono lo.size)
     clear HDG g1 hix hb2
     go_wp2
     go_roundw
     case rel => exact ⟨k + 1, by omega, by omega, by go_num, by rw [HT.out]; simp, lo2⟩
     case measure => simp [intOf]; omega
    skip
    have HNO : Hid (hdn (m' : Int) = m') := by unfold Hid hdn; rw [if_neg hz]; simp
    have dz : decide ((m' : Int) < 60000) = false := decide_eq_false hz
    rw [HNO.out] at HT hnl
    have HDG := Lib.hid (digits_any m' wr (by omega))
    clear hz HNO
    have ha1 := add_bsv (hdS zs k) [32] (by simp; omega)
    have ha2 := add_bsv (hdS zs k ++ [32]) (Ag.num m') (by simp; omega)
    rw [show bsv [32] = ⟨#[32]⟩ from rfl] at ha1
    generalize hdS zs k = u at *
    go_wp2_with fail
    refine HDG.out.mono ?_
    rintro e w2 ⟨rfl, hb2⟩
    have lo2 := lo.trans (hb2.mono lo.size)
    clear HDG g1 hix hb2
    go_wp2
    go_roundw
    case rel => exact ⟨k + 1, by omega, by omega, by go_num, by rw [HT.out]; simp, lo2⟩
    case measure => simp [intOf]; omega
   obtain rfl : k = 12 := by omega
   generalize hdS zs 12 = u at *
   go_wp2
   go_meet
   case rel => exact ⟨u, rfl, by omega, lo⟩
  have dl : decide ((k : Int) < (zs.length : Int)) = false := decide_eq_false (by omega)
  generalize hdS zs k = u at *
  go_wp2
  go_meet
  case rel => exact ⟨u, rfl, by omega, lo⟩
 obtain ⟨T, rfl, hT, lo⟩ := hcut
 clear hU HHL hml2
 have HFIN : Hid (∀ (U : Ag.Bs), U.length ≤ 200 → ∀ V, Below w.heap.size w V → Calls Tryz.prog 12 #[.string (bsv U)] V fun e w' => e = .returned (.bool true) ∧ Below V.heap.size V w') :=
  fun U hU V hb => same5_any U V (by omega) (HA.out.on hb)
 have HAW : Hid (∀ V, Below w.heap.size w V → Calls Tryz.prog 11 #[] V fun e w' => e = .returned (.bool true) ∧ Below V.heap.size V w') :=
  fun V hb => awake5_any w.heap.size V (HA.out.on hb)
 clear hmx
 cases fin with
 | true =>
  have ha := add_bsv T endT (by simp [endT]; omega)
  rw [show bsv endT = ⟨#[10, 50, 10, 52, 32, 50, 10]⟩ from rfl] at ha
  have hTL : (T ++ endT).length ≤ 110 := by simp [endT]; omega
  generalize T ++ endT = U at *
  have ha2 := add_bsv U [10] (by simp; omega)
  rw [show bsv [10] = ⟨#[10]⟩ from rfl] at ha2
  have hTL2 : (U ++ [10]).length ≤ 120 := by simp; omega
  have H1 := Lib.hid (HFIN.out U (by omega))
  have H2 := Lib.hid (HFIN.out (U ++ [10]) (by omega))
  generalize U ++ [10] = U2 at *
  clear hTL hTL2
  go_wp2_with fail
  refine (HAW.out _ lo).mono ?_
  rintro e w2 ⟨rfl, hb2⟩
  replace lo := lo.trans (hb2.mono lo.size)
  clear hb2
  go_wp2_with fail
  refine (H1.out _ lo).mono ?_
  rintro e w3 ⟨rfl, hb2⟩
  replace lo := lo.trans (hb2.mono lo.size)
  clear hb2
  go_wp2_with fail
  refine (H2.out _ lo).mono ?_
  rintro e w4 ⟨rfl, hb2⟩
  replace lo := lo.trans (hb2.mono lo.size)
  clear hb2
  go_wp2
  go_ret
  exact ⟨rfl, lo⟩
 | false =>
  have hTL : T.length ≤ 110 := by omega
  obtain ⟨U, hUT⟩ : ∃ U, U = T := ⟨_, rfl⟩
  rw [← hUT] at hTL
  rw [← hUT]
  clear hUT hT
  have ha2 := add_bsv U [10] (by simp; omega)
  rw [show bsv [10] = ⟨#[10]⟩ from rfl] at ha2
  have hTL2 : (U ++ [10]).length ≤ 120 := by simp; omega
  have H1 := Lib.hid (HFIN.out U (by omega))
  have H2 := Lib.hid (HFIN.out (U ++ [10]) (by omega))
  generalize U ++ [10] = U2 at *
  clear hTL hTL2
  go_wp2_with fail
  refine (HAW.out _ lo).mono ?_
  rintro e w2 ⟨rfl, hb2⟩
  replace lo := lo.trans (hb2.mono lo.size)
  clear hb2
  go_wp2_with fail
  refine (H1.out _ lo).mono ?_
  rintro e w3 ⟨rfl, hb2⟩
  replace lo := lo.trans (hb2.mono lo.size)
  clear hb2
  go_wp2_with fail
  refine (H2.out _ lo).mono ?_
  rintro e w4 ⟨rfl, hb2⟩
  replace lo := lo.trans (hb2.mono lo.size)
  clear hb2
  go_wp2
  go_ret
  exact ⟨rfl, lo⟩
end Go.Proofs.YtpejilhdhkmcjaaGreatDoor
