/- AagSpoilt, walked. -/
import Derived.Test.YtpejilhdhkmcjaaGreatDoorJbAl
import Derived.Test.YtpejilhdhkmcjaaGreatDoorJbbv
namespace Go.Proofs.YtpejilhdhkmcjaaGreatDoor
open Go.RowKit

theorem print_pos (c : Cir) : 3 ≤ (Ag.printS c).length := by
 unfold Ag.printS
 simp [Ag.aagW]
/-- What is spoilt of a text. -/
def spoilS (P : Ag.Bs) (k : Nat) (kb : UInt8) (how : Nat) : Ag.Bs :=
 if how % 4 = 1 then P.take k ++ P.drop (k + 1) else if how % 4 = 2 then P.take k else if how % 4 = 3 then (P ++ [99, 10]) ++ P.take k else (P.take k ++ [kb]) ++ P.drop (k + 1)
theorem spoil_len (P : Ag.Bs) (k : Nat) (kb : UInt8) (how : Nat) (h : P.length ≤ 5000) : (spoilS P k kb how).length ≤ 11000 := by
 unfold spoilS
 split
 ·
  simp only [List.length_append, List.length_take, List.length_drop]; omega
 split
 ·
  simp only [List.length_take]; omega
 split
 ·
  simp only [List.length_append, List.length_take, List.length_cons, List.length_nil]; omega
 simp only [List.length_append, List.length_take, List.length_drop, List.length_cons, List.length_nil]; omega
set_option maxRecDepth 100000 in
set_option maxHeartbeats 8000000 in
theorem aagSpoilt_walk (A0 : Option Addr) (k0 : Nat) (zs : List Int) (ai bi hi : Int) {B : Nat} (w : World) (hml : zs.length ≤ maxLen) (hU : Us w w.heap.size A0 zs) (ha0 : 0 ≤ ai) (ha1 : ai ≤ 65535) (hb0 : 0 ≤ bi) (hb1 : bi ≤ 255) (hh0 : 0 ≤ hi) (hh1 : hi ≤ 255) (hA : Amb B w) :
  Calls Tryz.prog 7 #[.slice A0 zs.length k0, .int .u16 ai, .int .u8 bi, .int .u8 hi] w fun e w' => e = .returned (.bool true) ∧ Below w.heap.size w w' := by
 obtain ⟨at_, rfl⟩ := Int.eq_ofNat_of_zero_le ha0
 obtain ⟨by_, rfl⟩ := Int.eq_ofNat_of_zero_le hb0
 obtain ⟨how, rfl⟩ := Int.eq_ofNat_of_zero_le hh0
 have hby : by_ ≤ 255 := by omega
 clear ha0 hb0 hh0 hb1
 have HML := Lib.hid hml
 have hmx : 11000 ≤ maxLen := by decide
 have HMX := Lib.hid hmx
 obtain ⟨kb, hkb⟩ : ∃ kb : UInt8, (kb.toNat : Int) = (by_ : Int) := ⟨UInt8.ofNat by_, by rw [UInt8.toNat_ofNat_of_lt' (show by_ < 256 by omega)]⟩
 rw [← hkb]
 clear hml hmx hkb hby
 go_enter Tryz.func7, Tryz.ntmps7
 go_wp2_with fail
 refine (made4_any A0 k0 zs w HML.out hU).mono ?_
 rintro e w2 ⟨c, rfl, hC, hW, hMM, lo⟩
 obtain ⟨hM, hcap⟩ := hMM.cir
 have hpl := made_text hC
 have hp3 := print_pos c
 have HRP := Lib.hid (rprint_text c w2 hM hW (fun _ => by omega))
 unfold RPrintP at HRP
 rw [if_pos hC.right] at HRP
 clear hMM hU hM hcap hW hC
 generalize Ag.printS c = P at *
 go_wp2_with fail
 refine HRP.out.mono ?_
 rintro e w3 ⟨rfl, hb3⟩
 replace lo := lo.trans (hb3.mono lo.size)
 clear HRP hb3
 have hem : ¬ (bsv P).toList = [] := by
  rw [Lib.toList_data]
  show ¬ P = []
  intro h
  rw [h] at hp3
  simp at hp3
 have hem2 : (bsv P).toList.isEmpty = false := by
  cases he : (bsv P).toList with
  | nil => exact absurd he hem
  | cons _ _ => rfl
 have hzz : ((bsv P).size : Int) = (P.length : Int) := by rw [bsv_size]
 have hnz : ¬ (P.length : Int) = 0 := by omega
 obtain ⟨k, hk⟩ : ∃ k, k = at_ % P.length := ⟨_, rfl⟩
 have hmod : ((at_ : Int)).tmod (P.length : Int) = (k : Int) := by
  rw [hk, Int.tmod_eq_emod_of_nonneg (Int.natCast_nonneg _)]
  exact (Int.natCast_emod _ _).symm
 have hmod2 : ((at_ : Int)).tmod ((bsv P).size : Int) = (k : Int) := by rw [bsv_size]; exact hmod
 have hkl : k < P.length := by rw [hk]; exact Nat.mod_lt _ (by omega)
 have hhm : ((how : Int)).tmod 4 = ((how % 4 : Nat) : Int) := by
  rw [Int.tmod_eq_emod_of_nonneg (Int.natCast_nonneg _)]
  exact (Int.natCast_emod _ _).symm
 have HPL := Lib.hid hpl
 have HSP := Lib.hid (spoil_len P k kb how hpl)
 have hs1 := slto_bsv P k (by omega)
 have hs2 := sl_bsv P (k + 1) (by omega)
 rw [Int.natCast_add, Int.natCast_one] at hs2
 have hw : IntKind.i64.wrap ((k : Int) + 1) = (k : Int) + 1 := by
  have := HPL.out
  rw [IntKind.wrap_i64]
  omega
 clear hk hpl hp3
 have hlp : (P.take k).length + (P.drop (k + 1)).length + 3 ≤ 20000 := by
  have := HPL.out
  simp only [List.length_take, List.length_drop]
  omega
 have ha1 := add_bsv (P.take k) [kb] (by simp only [List.length_cons, List.length_nil]; omega)
 have ha2 := add_bsv (P.take k ++ [kb]) (P.drop (k + 1)) (by rw [List.length_append]; simp only [List.length_cons, List.length_nil]; omega)
 have hb1 := add_bsv (P.take k) (P.drop (k + 1)) (by omega)
 have hd1 := add_bsv P [99, 10] (by have := HPL.out; simp only [List.length_cons, List.length_nil]; omega)
 have hd2 := add_bsv (P ++ [99, 10]) (P.take k) (by have := HPL.out; rw [List.length_append]; simp only [List.length_cons, List.length_nil]; omega)
 rw [show bsv [99, 10] = ⟨#[99, 10]⟩ from rfl] at hd1
 go_upto_region 5 with fail
 clear hem hem2 hzz hnz hmod hmod2
 have hq1 : Blk (w3.alloc (Obj.cells #[.int .u8 (kb.toNat : Int)] 5)).drew w3.heap.size 5 #[.int .u8 (kb.toNat : Int)] := Blk.dr (Blk.new w3 5 #[.int .u8 (kb.toNat : Int)])
 have lo1 : Below w.heap.size w (w3.alloc (Obj.cells #[.int .u8 (kb.toNat : Int)] 5)).drew := (lo.alloc lo.size (Obj.cells #[.int .u8 (kb.toNat : Int)] 5)).drew
 have HE1 : Hid (how % 4 = 1 → spoilS P k kb how = P.take k ++ P.drop (k + 1)) := fun h => by unfold spoilS; rw [if_pos h]
 have HE2 : Hid (how % 4 = 2 → spoilS P k kb how = P.take k) := fun h => by unfold spoilS; rw [if_neg (by omega), if_pos h]
 have HE3 : Hid (how % 4 = 3 → spoilS P k kb how = (P ++ [99, 10]) ++ P.take k) := fun h => by unfold spoilS; rw [if_neg (by omega), if_neg (by omega), if_pos h]
 have HE0 : Hid (how % 4 = 0 → spoilS P k kb how = (P.take k ++ [kb]) ++ P.drop (k + 1)) := fun h => by unfold spoilS; rw [if_neg (by omega), if_neg (by omega), if_neg (by omega)]
 generalize hT : spoilS P k kb how = T at *
 clear hT
 generalize (P.take k ++ [kb]) ++ P.drop (k + 1) = T0 at *
 generalize P.take k ++ [kb] = U0 at *
 generalize P.take k ++ P.drop (k + 1) = T1 at *
 generalize (P ++ [99, 10]) ++ P.take k = T3 at *
 generalize P ++ [99, 10] = U3 at *
 have HAW : Hid (∀ V, Below w.heap.size w V → Calls Tryz.prog 11 #[] V fun e w' => e = .returned (.bool true) ∧ Below V.heap.size V w') := fun V hb => awake5_any B V (hA.on (hb.mono hA.le))
 have HSA : Hid (∀ V, Below w.heap.size w V → Calls Tryz.prog 12 #[.string (bsv T)] V fun e w' => e = .returned (.bool true) ∧ Below V.heap.size V w') := fun V hb => same5_any T V (by have := HSP.out; have := HMX.out; omega) (hA.on (hb.mono hA.le))
 clear HSP HMX HML hA lo hlp
 refine wp_region_held_drew (S := (fun _ => True)) (by kernel_rfl) (trivial) (fun hHeld => ?_)
 refine zT 0 ⟨some 26, _, _, _, _, _⟩ ?_ rfl (by kernel_rfl) (fun _ _ _ h => h) (by rfl) hHeld ?_ ?_
 rotate_left
 ·
  intro w hSw
  (try dsimp only at hSw)
  obtain hSw := hSw
  first | (go_simp; done) | (go_simp; with_reducible rfl) | with_reducible rfl
 try simp only [Act.put, zA, zB, zC]
 refine zT 1 ⟨some 27, _, _, _, _, _⟩ ?_ rfl (by kernel_rfl) (fun _ _ _ h => h) (by rfl) hHeld ?_ ?_
 rotate_left
 ·
  intro w hSw
  (try dsimp only at hSw)
  obtain hSw := hSw
  first | (go_simp; done) | (go_simp; with_reducible rfl) | with_reducible rfl
 try simp only [Act.put, zA, zB, zC]
 refine zT 3 ⟨some 29, _, _, _, _, _⟩ ?_ rfl (by kernel_rfl) (fun _ _ _ h => h) (by rfl) hHeld ?_ ?_
 rotate_left
 ·
  intro w hSw
  (try dsimp only at hSw)
  obtain hSw := hSw
  first | (go_simp; done) | (go_simp; with_reducible rfl) | with_reducible rfl
 try simp only [Act.put, zA, zB, zC]
 refine zT 7 ⟨some 33, _, _, _, _, _⟩ ?_ rfl (by kernel_rfl) (fun _ _ _ h => h) (by rfl) hHeld ?_ ?_
 rotate_left
 ·
  intro w hSw
  (try dsimp only at hSw)
  obtain hSw := hSw
  first | (go_simp; done) | (go_simp; with_reducible rfl) | with_reducible rfl
 try simp only [Act.put, zA, zB, zC]
 refine zT 8 ⟨some 34, _, _, _, _, _⟩ ?_ rfl (by kernel_rfl) (fun _ _ _ h => h) (by rfl) hHeld ?_ ?_
 rotate_left
 ·
  intro w hSw
  (try dsimp only at hSw)
  obtain hSw := hSw
  first | (go_simp; done) | (go_simp; with_reducible rfl) | with_reducible rfl
 try simp only [Act.put, zA, zB, zC]
 refine zT 2 ⟨some 28, _, _, _, _, _⟩ ?_ rfl (by kernel_rfl) (fun _ _ _ h => h) (by rfl) hHeld ?_ ?_
 rotate_left
 ·
  intro w hSw
  (try dsimp only at hSw)
  obtain hSw := hSw
  first | (go_simp; done) | (go_simp; with_reducible rfl) | with_reducible rfl
 try simp only [Act.put, zA, zB, zC]
 refine zT 9 ⟨some 35, _, _, _, _, _⟩ ?_ rfl (by kernel_rfl) (fun _ _ _ h => h) (by rfl) hHeld ?_ ?_
 rotate_left
 ·
  intro w hSw
  (try dsimp only at hSw)
  obtain hSw := hSw
  first | (go_simp; done) | (go_simp; with_reducible rfl) | with_reducible rfl
 try simp only [Act.put, zA, zB, zC]
 refine zT 10 ⟨some 36, _, _, _, _, _⟩ ?_ rfl (by kernel_rfl) (fun _ _ _ h => h) (by rfl) hHeld ?_ ?_
 rotate_left
 ·
  intro w hSw
  (try dsimp only at hSw)
  obtain hSw := hSw
  first | (go_simp; done) | (go_simp; with_reducible rfl) | with_reducible rfl
 try simp only [Act.put, zA, zB, zC]
 refine wpAnyH_ready (rs := [4]) (by kernel_rfl) (by simp) ?_
 refine AllReadyH.cons (o := ⟨some 30, _, _, _, _, _⟩) rfl (fun K hK => ?_) AllReadyH.nil
 go_simp
 generalize (w3.alloc (Obj.cells #[.int .u8 (kb.toNat : Int)] 5)).drew = V2 at *
 have hcv := one_byteR w3.heap.size 1 kb V2 hq1
 refine hK.out _ _ ?_ (fun hHeld => ?_)
 ·
  exact trivial
 clear hK K
 try simp only [Act.put, zA, zB, zC]
 refine wpAnyH_ready (rs := [5]) (by kernel_rfl) (by simp) ?_
 refine AllReadyH.cons (o := ⟨some 31, _, _, _, _, _⟩) rfl (fun K hK => ?_) AllReadyH.nil
 go_simp
 refine hK.out _ _ ?_ (fun hHeld => ?_)
 ·
  exact trivial
 clear hK K
 try simp only [Act.put, zA, zB, zC]
 refine zT 6 ⟨some 32, _, _, _, _, _⟩ ?_ rfl (by kernel_rfl) (fun _ _ _ h => h) (by rfl) hHeld ?_ ?_
 rotate_left
 ·
  intro w hSw
  (try dsimp only at hSw)
  obtain hSw := hSw
  first | (go_simp; done) | (go_simp; with_reducible rfl) | with_reducible rfl
 try simp only [Act.put, zA, zB, zC]
 refine zT 11 ⟨some 37, _, _, _, _, _⟩ ?_ rfl (by kernel_rfl) (fun _ _ _ h => h) (by rfl) hHeld ?_ ?_
 rotate_left
 ·
  intro w hSw
  (try dsimp only at hSw)
  obtain hSw := hSw
  first | (go_simp; done) | (go_simp; with_reducible rfl) | with_reducible rfl
 try simp only [Act.put, zA, zB, zC]
 refine zT 12 ⟨some 12, _, _, _, _, _⟩ ?_ rfl (by kernel_rfl) (fun _ _ _ h => h) (by rfl) hHeld ?_ ?_
 rotate_left
 ·
  intro w hSw
  (try dsimp only at hSw)
  obtain hSw := hSw
  first | (go_simp; done) | (go_simp; with_reducible rfl) | with_reducible rfl
 try simp only [Act.put, zA, zB, zC]
 refine wpAnyH_done (by kernel_rfl) ?_ _
 clear hcv hq1
 have hr : how % 4 = 0 ∨ how % 4 = 1 ∨ how % 4 = 2 ∨ how % 4 = 3 := by omega
 rcases hr with hr | hr | hr | hr
 ·
  skip
  have he := HE0.out hr
  rw [hr] at hhm
  subst he
  clear HE0 HE1 HE2 HE3 hr
  go_wp2_with fail
  refine (HAW.out _ lo1).mono ?_
  rintro e w5 ⟨rfl, hb5⟩
  have lo5 := lo1.trans (hb5.mono lo1.size)
  clear HAW hb5
  go_wp2_with fail
  refine (HSA.out _ lo5).mono ?_
  rintro e w6 ⟨rfl, hb6⟩
  have lo6 := lo5.trans (hb6.mono lo5.size)
  clear HSA hb6
  go_wp2
  go_ret
  exact ⟨rfl, lo6⟩
 ·
  skip
  have he := HE1.out hr
  rw [hr] at hhm
  subst he
  clear HE0 HE1 HE2 HE3 hr
  go_upto_region 8 with fail
  refine wp_region_held_drew (S := (fun _ => True)) (by kernel_rfl) (trivial) (fun hHeld => ?_)
  refine zT 0 ⟨some 42, _, _, _, _, _⟩ ?_ rfl (by kernel_rfl) (fun _ _ _ h => h) (by rfl) hHeld ?_ ?_
  rotate_left
  ·
   intro w hSw
   (try dsimp only at hSw)
   obtain hSw := hSw
   first | (go_simp; done) | (go_simp; with_reducible rfl) | with_reducible rfl
  try simp only [Act.put, zA, zB, zC]
  refine zT 1 ⟨some 43, _, _, _, _, _⟩ ?_ rfl (by kernel_rfl) (fun _ _ _ h => h) (by rfl) hHeld ?_ ?_
  rotate_left
  ·
   intro w hSw
   (try dsimp only at hSw)
   obtain hSw := hSw
   first | (go_simp; done) | (go_simp; with_reducible rfl) | with_reducible rfl
  try simp only [Act.put, zA, zB, zC]
  refine zT 3 ⟨some 45, _, _, _, _, _⟩ ?_ rfl (by kernel_rfl) (fun _ _ _ h => h) (by rfl) hHeld ?_ ?_
  rotate_left
  ·
   intro w hSw
   (try dsimp only at hSw)
   obtain hSw := hSw
   first | (go_simp; done) | (go_simp; with_reducible rfl) | with_reducible rfl
  try simp only [Act.put, zA, zB, zC]
  refine zT 4 ⟨some 46, _, _, _, _, _⟩ ?_ rfl (by kernel_rfl) (fun _ _ _ h => h) (by rfl) hHeld ?_ ?_
  rotate_left
  ·
   intro w hSw
   (try dsimp only at hSw)
   obtain hSw := hSw
   first | (go_simp; done) | (go_simp; with_reducible rfl) | with_reducible rfl
  try simp only [Act.put, zA, zB, zC]
  refine zT 2 ⟨some 44, _, _, _, _, _⟩ ?_ rfl (by kernel_rfl) (fun _ _ _ h => h) (by rfl) hHeld ?_ ?_
  rotate_left
  ·
   intro w hSw
   (try dsimp only at hSw)
   obtain hSw := hSw
   first | (go_simp; done) | (go_simp; with_reducible rfl) | with_reducible rfl
  try simp only [Act.put, zA, zB, zC]
  refine zT 5 ⟨some 47, _, _, _, _, _⟩ ?_ rfl (by kernel_rfl) (fun _ _ _ h => h) (by rfl) hHeld ?_ ?_
  rotate_left
  ·
   intro w hSw
   (try dsimp only at hSw)
   obtain hSw := hSw
   first | (go_simp; done) | (go_simp; with_reducible rfl) | with_reducible rfl
  try simp only [Act.put, zA, zB, zC]
  refine zT 6 ⟨some 48, _, _, _, _, _⟩ ?_ rfl (by kernel_rfl) (fun _ _ _ h => h) (by rfl) hHeld ?_ ?_
  rotate_left
  ·
   intro w hSw
   (try dsimp only at hSw)
   obtain hSw := hSw
   first | (go_simp; done) | (go_simp; with_reducible rfl) | with_reducible rfl
  try simp only [Act.put, zA, zB, zC]
  refine zT 7 ⟨some 49, _, _, _, _, _⟩ ?_ rfl (by kernel_rfl) (fun _ _ _ h => h) (by rfl) hHeld ?_ ?_
  rotate_left
  ·
   intro w hSw
   (try dsimp only at hSw)
   obtain hSw := hSw
   first | (go_simp; done) | (go_simp; with_reducible rfl) | with_reducible rfl
  try simp only [Act.put, zA, zB, zC]
  refine zT 8 ⟨some 12, _, _, _, _, _⟩ ?_ rfl (by kernel_rfl) (fun _ _ _ h => h) (by rfl) hHeld ?_ ?_
  rotate_left
  ·
   intro w hSw
   (try dsimp only at hSw)
   obtain hSw := hSw
   first | (go_simp; done) | (go_simp; with_reducible rfl) | with_reducible rfl
  try simp only [Act.put, zA, zB, zC]
  refine wpAnyH_done (by kernel_rfl) ?_ _
  go_wp2_with fail
  refine (HAW.out _ lo1.drew).mono ?_
  rintro e w5 ⟨rfl, hb5⟩
  have lo5 := lo1.drew.trans (hb5.mono lo1.drew.size)
  clear HAW hb5
  go_wp2_with fail
  refine (HSA.out _ lo5).mono ?_
  rintro e w6 ⟨rfl, hb6⟩
  have lo6 := lo5.trans (hb6.mono lo5.size)
  clear HSA hb6
  go_wp2
  go_ret
  exact ⟨rfl, lo6⟩
 ·
  skip
  have he := HE2.out hr
  rw [hr] at hhm
  subst he
  clear HE0 HE1 HE2 HE3 hr
  go_wp2_with fail
  refine (HAW.out _ lo1).mono ?_
  rintro e w5 ⟨rfl, hb5⟩
  have lo5 := lo1.trans (hb5.mono lo1.size)
  clear HAW hb5
  go_wp2_with fail
  refine (HSA.out _ lo5).mono ?_
  rintro e w6 ⟨rfl, hb6⟩
  have lo6 := lo5.trans (hb6.mono lo5.size)
  clear HSA hb6
  go_wp2
  go_ret
  exact ⟨rfl, lo6⟩
 skip
 have he := HE3.out hr
 rw [hr] at hhm
 subst he
 clear HE0 HE1 HE2 HE3 hr
 go_wp2_with fail
 refine (HAW.out _ lo1).mono ?_
 rintro e w5 ⟨rfl, hb5⟩
 have lo5 := lo1.trans (hb5.mono lo1.size)
 clear HAW hb5
 go_wp2_with fail
 refine (HSA.out _ lo5).mono ?_
 rintro e w6 ⟨rfl, hb6⟩
 have lo6 := lo5.trans (hb6.mono lo5.size)
 clear HSA hb6
 go_wp2
 go_ret
 exact ⟨rfl, lo6⟩
end Go.Proofs.YtpejilhdhkmcjaaGreatDoor
