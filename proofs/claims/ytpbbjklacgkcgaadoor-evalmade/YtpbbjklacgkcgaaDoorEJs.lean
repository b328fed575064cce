/- The laws' sameBools. -/
import Derived.Test.YtpbbjklacgkcgaaDoorEJ
import Derived.Test.YtpbbjklacgkcgaaDoorEI
namespace Go.Proofs.YtpbbjklacgkcgaaDoor
open Go.RowKit

set_option maxHeartbeats 2000000 in
theorem sameBools_true (A A2 : Option Addr) (c c2 : Nat) (bs : List Bool) (w : World) (B B2 : Nat) (hm : bs.length ≤ 1000000) (hV : Vs w B A (bv bs)) (hV2 : Vs w B2 A2 (bv bs)) :
    Calls Tryd.prog 10 #[.slice A bs.length c, .slice A2 bs.length c2] w fun e w' => e = .returned (.bool true) ∧ ∃ m, w' = w.drewN m := by
  go_enter Tryd.func10, Tryd.ntmps10
  go_wp2_with fail
  go_loopw [5] (fun i wr => ∃ k : Nat, k ≤ bs.length ∧ i = .int .i64 k ∧ ∃ m, wr = w.drewN m) (fun i _ => bs.length - (intOf i).toNat)
  case atStart => exact ⟨0, Nat.zero_le _, rfl, 0, rfl⟩
  case round =>
    obtain ⟨k, hkl, rfl, m, rfl⟩ := hrel
    by_cases hlt : k < bs.length
    · obtain ⟨b, off, hA, _, g1⟩ := hV.bool k hlt
      obtain ⟨b2, off2, hA2, _, g2⟩ := hV2.bool k hlt
      subst hA hA2
      have hix := ixB b off bs.length c k hm hlt
      have hix2 := ixB b2 off2 bs.length c2 k hm hlt
      generalize bs.getD k false = x at *
      have hxx : (x != x) = false := by simp
      go_wp2_with fail
      go_quiet (fail)
      go_wp2_with fail
      go_roundw
      case rel => exact ⟨k + 1, by omega, by go_num, _, rfl⟩
      case measure => simp [intOf]; omega
    · go_wp2_with fail
      go_ret
      exact ⟨rfl, _, rfl⟩
end Go.Proofs.YtpbbjklacgkcgaaDoor
