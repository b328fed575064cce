/- math/bits.Len at numbers below 65536. -/
import Derived.Test.YteabffdddlihnaaB
import Derived.Lib.BitFns
import Derived.Lib.ItoaNum
namespace Go.Proofs.Yteabffdddlihnaa
open Go.RowKit

set_option maxRecDepth 100000 in
set_option maxHeartbeats 4000000 in
theorem len64_any (x : Int) (w : World) (h0 : 0 ≤ x) (h1 : x ≤ 65535) :
    Calls Try.prog 89 #[.int .u64 x] w fun e w' => e = .returned (.int .i64 (Lib.bitLen x.toNat)) ∧ w = w' := by
  by_cases hx : x ≤ 255
  · have hl := Lib.bitLen_le8' x h0 hx
    have H := Lib.hid (Lib.len8_of x h0 hx)
    go_enter Try.func89, Try.ntmps89
    go_wp2
    all_goals (go_ret; refine ⟨congrArg Ending.returned (congrArg (Value.int IntKind.i64) ?_), rfl⟩)
    rw [H.out]
    unfold wrap64
    omega
  · have h2 : 0 ≤ x / 256 := by omega
    have h3 : x / 256 ≤ 255 := by omega
    have hl := Lib.bitLen_le8' (x / 256) h2 h3
    have H := Lib.hid (Lib.len8_of (x / 256) h2 h3)
    have e : (x / 256).toNat = x.toNat / 256 := by omega
    have s := Lib.bitLen_shift8 x.toNat (by omega) (by omega)
    rw [← e] at s
    have HS := Lib.hid s
    clear s e
    go_enter Try.func89, Try.ntmps89
    go_wp2
    all_goals (go_ret; refine ⟨congrArg Ending.returned (congrArg (Value.int IntKind.i64) ?_), rfl⟩)
    rw [H.out, HS.out]
    unfold wrap64
    omega

set_option maxRecDepth 100000 in
set_option maxHeartbeats 4000000 in
theorem len_any (x : Int) (w : World) (h0 : 0 ≤ x) (h1 : x ≤ 65535) :
    Calls Try.prog 82 #[.int .u64 x] w fun e w' => e = .returned (.int .i64 (Lib.bitLen x.toNat)) ∧ w = w' := by
  go_enter Try.func82, Try.ntmps82
  go_wp2_with (go_at_call 89; refine (len64_any _ _ h0 h1).mono ?_; rintro e w' ⟨rfl, rfl⟩)
  go_ret
  exact ⟨rfl, rfl⟩

theorem bitLen_lt (x : Nat) (h : x ≤ 65535) : x < 2 ^ Lib.bitLen x := by
  by_cases e : x = 0
  · subst e; exact Nat.two_pow_pos _
  · exact (Lib.bitLenAux_bounds 64 x (by omega) e).2.2
theorem bitLen_top (x : Nat) (h : x ≤ 2000) : Lib.bitLen x ≤ 11 := Lib.bitLen_le x 11 (by omega) (by omega)
end Go.Proofs.Yteabffdddlihnaa
