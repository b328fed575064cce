/- bit, turn and three, of the reference. -/
import Derived.Test.YtpbbjklacgkcgaaDoorEB
namespace Go.Proofs.YtpbbjklacgkcgaaDoor
open Go.RowKit

set_option maxHeartbeats 2000000 in
theorem bit_any (A : Option Addr) (c : Nat) (bs : List Bool) (l : Int) (w : World) (B : Nat) (hV : Vs w B A (bv bs)) (h0 : 0 ≤ l) (h1 : (l / 2).toNat < bs.length) (hm : bs.length ≤ 1000000) :
    Calls Tryd.prog 29 #[.slice A bs.length c, .int .i64 l] w fun e w' => e = .returned (.bool (Em.bitB bs l)) ∧ w' = w := by
  obtain ⟨b, off, rfl, _, hc⟩ := hV.bool _ h1
  have hq : l / 2 = ((l / 2).toNat : Int) := by omega
  unfold Em.bitB
  generalize bs.getD (l / 2).toNat false = x at *
  generalize (l / 2).toNat = r at *
  have hix := ixB b off bs.length c r hm h1
  go_enter Tryd.func29, Tryd.ntmps29
  go_wp2
  go_ret
  exact ⟨rfl, rfl⟩

set_option maxHeartbeats 400000 in
theorem turn_any (x : Int) (w : World) (h : Em.T3 x) :
    Calls Tryd.prog 49 #[.int .i64 x] w fun e w' => e = .returned (.int .i64 (Em.turnT x)) ∧ w' = w := by
  rcases h with rfl | rfl | rfl <;>
  · go_enter Tryd.func49, Tryd.ntmps49
    go_wp2
    go_ret
    exact ⟨rfl, rfl⟩

set_option maxHeartbeats 2000000 in
theorem refthree_any (A : Option Addr) (c : Nat) (zs : List Int) (l : Int) (w : World) (B : Nat) (hV : Vs w B A (iv zs)) (h3 : Em.All3 zs) (h0 : 0 ≤ l) (h1 : (l / 2).toNat < zs.length) (hm : zs.length ≤ 1000000) :
    Calls Tryd.prog 37 #[.slice A zs.length c, .int .i64 l] w fun e w' => e = .returned (.int .i64 (Em.triT zs l)) ∧ w' = w := by
  obtain ⟨b, off, rfl, _, hc⟩ := hV.int _ h1
  have hq : l / 2 = ((l / 2).toNat : Int) := by omega
  have hT := Lib.hid (turn_any _ w (h3 (l / 2).toNat))
  unfold Em.triT
  generalize zs.getD (l / 2).toNat 0 = x at *
  generalize (l / 2).toNat = r at *
  have hix := ixI b off zs.length c r hm h1
  generalize Em.turnT x = y at *
  by_cases hl : l % 2 = 1
  · rw [if_pos hl]
    go_enter Tryd.func37, Tryd.ntmps37
    go_wp2_with (go_at_call 49; refine hT.out.mono ?_; rintro e w' ⟨rfl, rfl⟩)
    go_ret
    exact ⟨rfl, rfl⟩
  · rw [if_neg hl]
    go_enter Tryd.func37, Tryd.ntmps37
    go_wp2_with fail
    go_ret
    exact ⟨rfl, rfl⟩
end Go.Proofs.YtpbbjklacgkcgaaDoor
