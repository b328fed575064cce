/- The reference's Same, of equal graphs. -/
import Derived.Test.YtpejilhdhkmcjaaGreatDoorJbAl
import Derived.Test.YtpejilhdhkmcjaaGreatDoorJbag
namespace Go.Proofs.YtpejilhdhkmcjaaGreatDoor
open Go.RowKit

set_option maxRecDepth 100000 in
set_option maxHeartbeats 4000000 in
theorem same_true (n : Int) (A A2 : Option Addr) (c c2 : Nat) (gs : List (Int × Int)) (w : World) (hl : gs.length ≤ 1000000) (hg : Gr w w.heap.size A gs) (hg2 : Gr w w.heap.size A2 gs) :
  Calls Tryz.prog 39 #[.agg #[.int .i64 n, .slice A gs.length c], .agg #[.int .i64 n, .slice A2 gs.length c2]] w fun e w' => e = .returned (.bool true) ∧ Below w.heap.size w w' := by
 have b1 : (n != n) = false := by simp
 have b2 : ((gs.length : Int) != (gs.length : Int)) = false := by simp
 have HL := Lib.hid hl
 obtain ⟨W, hW⟩ : ∃ W, W = ((w.alloc (Obj.cells #[Value.int .i64 n, .slice A gs.length c] 64)).alloc (Obj.cells #[.int .i64 n, .slice A2 gs.length c2] 64)) := ⟨_, rfl⟩
 have hbw : Below w.heap.size w W := by rw [hW]; exact ((Below.refl w.heap.size w).alloc (Nat.le_refl _) _).alloc (by simp) _
 have d1 : W.cell? ⟨w.heap.size, 1, none⟩ = some (.slice A gs.length c) := by rw [hW]; go_simp
 have d2 : W.cell? ⟨w.heap.size + 1, 1, none⟩ = some (.slice A2 gs.length c2) := by rw [hW]; go_simp
 go_enter Tryz.func39, Tryz.ntmps39
 go_wp2
 rw [← hW]
 clear hW b1 b2
 go_loopw [5] (fun j wr => ∃ k : Nat, k ≤ gs.length ∧ j = .int .i64 (k : Int) ∧ ∃ q, wr = W.drewN q) (fun j _ => gs.length - (intOf j).toNat)
 case atStart => exact ⟨0, Nat.zero_le _, rfl, 0, rfl⟩
 obtain ⟨k, hk, rfl, q, rfl⟩ := hrel
 by_cases hlt : k < gs.length
 ·
  obtain ⟨b, off, hA, _, g1, g2⟩ := (hg.below hbw (Nat.le_refl _)) k hlt
  obtain ⟨b2, off2, hA2, _, g3, g4⟩ := (hg2.below hbw (Nat.le_refl _)) k hlt
  subst hA hA2
  have hix := ix2 b off gs.length c k HL.out hlt
  have hix2 := ix2 b2 off2 gs.length c2 k HL.out hlt
  have hgu := eqGuard2
  generalize gs[k] = g at *
  obtain ⟨x, y⟩ := g
  simp only at g1 g2 g3 g4
  have hel := neq_arr2 x y x y
  rw [show (!(x == x && y == y)) = false by simp] at hel
  go_wp2
  go_quiet (fail)
  go_wp2
  go_roundw
  case rel => exact ⟨k + 1, by omega, by go_num, q + nq, rfl⟩
  case measure => simp [intOf]; omega
 go_wp2
 go_ret
 exact ⟨rfl, below_drewN hbw _⟩
end Go.Proofs.YtpejilhdhkmcjaaGreatDoor
