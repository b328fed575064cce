/- The document's Digits. -/
import Derived.Test.YtpejilhdhkmcjaaGreatDoorJaAl
import Derived.Test.YtpejilhdhkmcjaaGreatDoorJaax
import Derived.Test.YtpejilhdhkmcjaaGreatDoorJabr
namespace Go.Proofs.YtpejilhdhkmcjaaGreatDoor
open Go.RowKit

theorem add_bsv (u x : Ag.Bs) (h : u.length + x.length ≤ 1000000000) (w : World) : (Op.stringOp .add (bsv u) (bsv x)).run Tryz.prog w = .ok (.string (bsv (u ++ x))) w := add_bs u x h w
theorem one_byteR (g c : Nat) (b : UInt8) (w : World) (h : Blk w g 5 #[.int .u8 (b.toNat : Int)]) : (convert 37 9 (.slice (some ⟨g, 0, none⟩) 1 c)).run Tryz.prog w = .ok (.string (bsv [b])) w := by
 refine run_convert_bytes_back w _ _ _ ⟨g, 0, none⟩ c [b] Tryz.underlying37 Tryz.underlying5 Tryz.underlying9 ?_
 exact Lib.bytes_of_row (cur := #[.int .u8 (b.toNat : Int)]) (l := [b]) h rfl
set_option maxRecDepth 10000 in
set_option maxHeartbeats 4000000 in
theorem digits_any (n : Nat) : ∀ (w : World), n ≤ 999999 → Calls Tryz.prog 19 #[.int .i64 (n : Int)] w fun e w' => e = .returned (.string (bsv (Ag.num n))) ∧ Below w.heap.size w w' := by
 induction n using Nat.strongRecOn with
 | ind n ih =>
  intro w hn
  have hb : ((UInt8.ofNat (48 + n % 10)).toNat : Int) = 48 + (n : Int) % 10 := by
   have := Ag.ofNat_dig (d := n % 10) (by omega)
   omega
  obtain ⟨b, hbe⟩ : ∃ b, b = UInt8.ofNat (48 + n % 10) := ⟨_, rfl⟩
  rw [← hbe] at hb
  have hbk := Blk.new w 5 #[.int .u8 (b.toNat : Int)]
  have lo := lowAlloc w (Obj.cells #[.int .u8 (b.toNat : Int)] 5)
  have hcv := one_byteR w.heap.size 1 b _ hbk
  rw [hb] at hbk lo hcv
  have HIH := Lib.hid ih
  clear ih hb
  by_cases h10 : n < 10
  ·
   have dl : decide ((n : Int) < 10) = true := decide_eq_true (by omega)
   have HE : Hid (Ag.num n = [b]) := by unfold Hid; rw [hbe, Ag.num_small h10, Nat.mod_eq_of_lt h10]
   have dl2 : decide (n < 10) = true := decide_eq_true (by omega)
   clear h10 hbe
   go_enter Tryz.func19, Tryz.ntmps19
   go_wp2
   go_ret
   exact ⟨by rw [HE.out]; rfl, lo⟩
  have dl : decide ((n : Int) < 10) = false := decide_eq_false (by omega)
  have HE : Hid (Ag.num n = Ag.num (n / 10) ++ [b]) := by unfold Hid; rw [hbe]; exact Ag.num_big h10
  have dl2 : decide (n < 10) = false := decide_eq_false (by omega)
  clear hbe
  have hnl : (Ag.num (n / 10)).length ≤ 6 := Ag.num_len 5 (n / 10) (by omega)
  have hadd := add_bsv (Ag.num (n / 10)) [b] (by simp; omega)
  have hq : ((n : Int).tdiv 10) = ((n / 10 : Nat) : Int) := by
   rw [Int.tdiv_eq_ediv_of_nonneg (by omega)]
   omega
  have HQ := Lib.hid hq
  go_enter Tryz.func19, Tryz.ntmps19
  go_wp2_with fail
  have hlt : n / 10 < n := by omega
  refine (HIH.out (n / 10) hlt _ (by omega)).mono ?_
  rintro e w2 ⟨rfl, hb2⟩
  replace lo := lo.trans (hb2.mono lo.size)
  clear hbk hcv hb2
  go_wp2
  go_ret
  exact ⟨by rw [HE.out]; rfl, lo⟩
end Go.Proofs.YtpejilhdhkmcjaaGreatDoor
