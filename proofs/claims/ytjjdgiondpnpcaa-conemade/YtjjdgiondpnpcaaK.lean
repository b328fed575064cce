/- simple. -/
import Derived.Test.YtjjdgiondpnpcaaJ
namespace Go.Proofs.Ytjjdgiondpnpcaa
open Go.RowKit

/-- What simple hands back. -/
def SimplePost (a b : Int) (w : World) (e : Ending) (w' : World) : Prop := e = .returned (.tuple #[.int .i64 ((Gm.simpleS a b).getD 0), .bool (Gm.simpleS a b).isSome]) ∧ w = w'

set_option maxHeartbeats 2000000 in
theorem simple_any (a b : Int) (w : World) (ha : 0 ≤ a) (hb : 0 ≤ b) (hb1 : b ≤ 9223372036854775807) :
    Calls Try.prog 47 #[.int .i64 a, .int .i64 b] w (SimplePost a b w) := by
  have fin : ∀ (x : Int) (q : Bool), (Gm.simpleS a b).getD 0 = x → (Gm.simpleS a b).isSome = q → SimplePost a b w (.returned (.tuple #[.int .i64 x, .bool q])) w := fun x q h1 h2 => ⟨by rw [h1, h2], rfl⟩
  have HF := Lib.hid fin
  clear fin
  by_cases h0 : a = 0
  · subst h0
    have e1 : Gm.simpleS 0 b = some 0 := by simp [Gm.simpleS]
    have R := HF.out 0 true (by rw [e1]; rfl) (by rw [e1]; rfl)
    have HR := Lib.hid R
    clear R e1
    go_enter Try.func47, Try.ntmps47
    go_wp2
    go_ret2
    exact HR.out
  have b0 : (a == 0) = false := by simp [h0]
  by_cases h1 : b = 0
  · subst h1
    have e1 : Gm.simpleS a 0 = some 0 := by simp [Gm.simpleS]
    have R := HF.out 0 true (by rw [e1]; rfl) (by rw [e1]; rfl)
    have HR := Lib.hid R
    clear R e1
    go_enter Try.func47, Try.ntmps47
    go_wp2
    go_ret2
    exact HR.out
  have b1 : (b == 0) = false := by simp [h1]
  by_cases h2 : a = Gm.negB b
  · have e1 : Gm.simpleS a b = some 0 := by simp [Gm.simpleS, h2]
    have R := HF.out 0 true (by rw [e1]; rfl) (by rw [e1]; rfl)
    have HR := Lib.hid R
    have b2 : (a == Gm.negB b) = true := by simp [h2]
    clear R e1 h2 h0 h1
    go_enter Try.func47, Try.ntmps47
    go_wp2_with (go_at_call 56; refine (negated_any _ _ hb hb1).mono ?_; rintro e w' ⟨rfl, rfl⟩)
    go_ret2
    exact HR.out
  have b2 : (a == Gm.negB b) = false := by simp [h2]
  by_cases h3 : a = 1
  · subst h3
    have e1 : Gm.simpleS 1 b = some b := by simp [Gm.simpleS, h1, h2]
    have R := HF.out b true (by rw [e1]; rfl) (by rw [e1]; rfl)
    have HR := Lib.hid R
    clear R e1 h2 h0 h1
    go_enter Try.func47, Try.ntmps47
    go_wp2_with (go_at_call 56; refine (negated_any _ _ hb hb1).mono ?_; rintro e w' ⟨rfl, rfl⟩)
    go_ret2
    exact HR.out
  have b3 : (a == 1) = false := by simp [h3]
  by_cases h4 : b = 1
  · subst h4
    have e1 : Gm.simpleS a 1 = some a := by simp [Gm.simpleS, h0, h2, h3]
    have R := HF.out a true (by rw [e1]; rfl) (by rw [e1]; rfl)
    have HR := Lib.hid R
    clear R e1 h2 h0 h1 h3
    go_enter Try.func47, Try.ntmps47
    go_wp2_with (go_at_call 56; refine (negated_any _ _ hb hb1).mono ?_; rintro e w' ⟨rfl, rfl⟩)
    go_ret2
    exact HR.out
  have b4 : (b == 1) = false := by simp [h4]
  by_cases h5 : a = b
  · have e1 : Gm.simpleS a b = some a := by unfold Gm.simpleS; rw [if_neg (by simp [h0, h1, h2]), if_neg h3, if_pos (Or.inr h5)]
    have b5 : (a == b) = true := by simp [h5]
    have R := HF.out a true (by rw [e1]; rfl) (by rw [e1]; rfl)
    have HR := Lib.hid R
    clear R e1 h2 h0 h1 h3 h4 h5
    go_enter Try.func47, Try.ntmps47
    go_wp2_with (go_at_call 56; refine (negated_any _ _ hb hb1).mono ?_; rintro e w' ⟨rfl, rfl⟩)
    go_ret2
    exact HR.out
  have b5 : (a == b) = false := by simp [h5]
  have e1 : Gm.simpleS a b = none := by simp [Gm.simpleS, h0, h1, h2, h3, h4, h5]
  have R := HF.out 0 false (by rw [e1]; rfl) (by rw [e1]; rfl)
  have HR := Lib.hid R
  clear R e1 h2 h0 h1 h3 h4 h5
  go_enter Try.func47, Try.ntmps47
  go_wp2_with (go_at_call 56; refine (negated_any _ _ hb hb1).mono ?_; rintro e w' ⟨rfl, rfl⟩)
  go_ret2
  exact HR.out
end Go.Proofs.Ytjjdgiondpnpcaa
