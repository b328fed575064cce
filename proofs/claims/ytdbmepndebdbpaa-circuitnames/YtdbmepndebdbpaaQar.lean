/- What comes after: the mathematics of CircuitAfter. -/
import Derived.Test.YtdbmepndebdbpaaQap
namespace Go.Proofs.Ytdbmepndebdbpaa
open Go.RowKit

namespace Cm
theorem aft_mod (c : Cir) (st : Int) (k : Nat) : aftS c st k % 2 ^ c.n.toNat = 0 := by
  induction k with
  | zero => simp [aftS]
  | succ k ih =>
    rw [aftS]
    split
    · rw [Nat.pow_add, Nat.add_mod, ih, Nat.mul_mod_right]
      simp
    · simpa using ih
theorem aft_keep (c : Cir) (st : Int) (i : Nat) : ∀ d, aftS c st (i + 1 + d) / 2 ^ (c.n.toNat + i) % 2 = aftS c st (i + 1) / 2 ^ (c.n.toNat + i) % 2 := by
  intro d
  induction d with
  | zero => rfl
  | succ d ih =>
    rw [← Nat.add_assoc, aftS]
    split
    · have e : 2 ^ (c.n.toNat + (i + 1 + d)) = 2 ^ (c.n.toNat + i) * (2 * 2 ^ d) := by
        rw [show c.n.toNat + (i + 1 + d) = (c.n.toNat + i) + (1 + d) by omega, Nat.pow_add _ _ (1 + d), Nat.pow_add _ 1 d, Nat.pow_one]
      rw [e, Nat.add_mul_div_left _ _ (Nat.two_pow_pos _), Nat.add_mul_mod_self_left]
      exact ih
    · simpa using ih
theorem aft_bit (c : Cir) (st : Int) (i n : Nat) (h : i < n) : aftS c st n / 2 ^ (c.n.toNat + i) % 2 = if isS c st (c.ls.getD i (0, 0)).1 = true then 1 else 0 := by
  obtain ⟨d, rfl⟩ : ∃ d, n = i + 1 + d := ⟨n - (i + 1), by omega⟩
  rw [aft_keep, aftS]
  have hlt := aft_lt c st i
  split
  · rw [Nat.add_div_right _ (Nat.two_pow_pos _), Nat.div_eq_of_lt hlt]
  · rw [Nat.add_zero, Nat.div_eq_of_lt hlt]
end Cm
theorem bits_more (s k : Int) (m : Nat) : bitsB (s + k * 2 ^ m) m = bitsB s m := by
  unfold bitsB
  apply List.map_congr_left
  intro i hi
  have hi' : i < m := List.mem_range.1 hi
  obtain ⟨d, rfl⟩ : ∃ d, m = i + (d + 1) := ⟨m - i - 1, by omega⟩
  have hp : (2 : Int) ^ i ≠ 0 := by
    have := Nat.two_pow_pos i
    exact_mod_cast (by omega : (2 : Nat) ^ i ≠ 0)
  have e : s + k * 2 ^ (i + (d + 1)) = s + 2 ^ i * (2 * (k * 2 ^ d)) := by
    rw [Int.pow_add, Int.pow_succ]
    simp only [Int.mul_assoc, Int.mul_comm, Int.mul_left_comm]
  rw [e, Int.add_mul_ediv_left _ _ hp, Int.add_mul_emod_self_left]
theorem after_more (c : Cir) (s k : Int) (m : Nat) (hm : c.n + c.ls.length = (m : Int)) : Cm.afterS c (s + k * 2 ^ m) = Cm.afterS c s := by
  have hi : ∀ l, Cm.isS c (s + k * 2 ^ m) l = Cm.isS c s l := by
    intro l
    unfold Cm.isS
    rw [hm, Int.toNat_natCast, bits_more]
  have ha : ∀ n, Cm.aftS c (s + k * 2 ^ m) n = Cm.aftS c s n := by
    intro n
    induction n with
    | zero => rfl
    | succ n ih => rw [Cm.aftS, Cm.aftS, ih, hi]
  unfold Cm.afterS
  rw [ha]
end Go.Proofs.Ytdbmepndebdbpaa
