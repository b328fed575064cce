/- Two lists are the same. -/
import Derived.Test.YtjjdgiondpnpcaaRF
namespace Go.Proofs.Ytjjdgiondpnpcaa
open Go.RowKit Go.Shelf

set_option maxRecDepth 100000 in
set_option maxHeartbeats 4000000 in
theorem sameints_true (A A2 : Option Addr) (c c2 : Nat) (zs : List Int) (w : World) (hl : zs.length ≤ 1000000) (hg : Vs w w.heap.size A (iv zs)) (hg2 : Vs w w.heap.size A2 (iv zs)) :
    Calls Try.prog 18 #[.slice A zs.length c, .slice A2 zs.length c2] w fun e w' => e = .returned (.bool true) ∧ Below w.heap.size w w' := by
  have b2 : ((zs.length : Int) != (zs.length : Int)) = false := by simp
  go_enter Try.func18, Try.ntmps18
  go_wp2_with fail
  clear b2
  go_loopw [5] (fun j wr => ∃ k : Nat, k ≤ zs.length ∧ j = .int .i64 (k : Int) ∧ ∃ q, wr = w.drewN q) (fun j _ => zs.length - (intOf j).toNat)
  case atStart => exact ⟨0, Nat.zero_le _, rfl, 0, rfl⟩
  case round =>
    obtain ⟨k, hk, rfl, q, rfl⟩ := hrel
    by_cases hlt : k < zs.length
    · obtain ⟨b, off, hA, _, g1⟩ := hg.int k hlt
      obtain ⟨b2, off2, hA2, _, g2⟩ := hg2.int k hlt
      subst hA hA2
      have hix := ixI b off zs.length c k hl hlt
      have hix2 := ixI b2 off2 zs.length c2 k hl hlt
      generalize zs.getD k 0 = x at *
      have hel : (x != x) = false := by simp
      go_wp2
      go_quiet (fail)
      go_wp2
      go_roundw
      case rel => exact ⟨k + 1, by omega, by go_num, q + nq, rfl⟩
      case measure => simp [intOf]; omega
    · go_wp2
      go_ret
      exact ⟨rfl, below_drewN (Below.refl _ _) _⟩
end Go.Proofs.Ytjjdgiondpnpcaa
