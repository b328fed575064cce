/- Small functions of package graph and of the reference: variables, negated, variable, literal, Vars, Lit. -/
import Derived.Test.YteabffdddlihnaaRows
import Derived.Test.YteabffdddlihnaaM
import Derived.WalkSpells
import Derived.WalkLawsBesides
import Derived.BigQuiet
import Derived.Deep.QuietTactic
import Derived.Deep.RegionHeld3
import Derived.Lib.Hide
namespace Go.Proofs.Yteabffdddlihnaa
open Go.RowKit

theorem bcell {W w1 : World} (hb : Below W.heap.size W w1) : (∀ b o, b < W.heap.size → w1.cell? ⟨b, o, none⟩ = W.cell? ⟨b, o, none⟩) ∧ (∀ b o, b < W.heap.size → w1.frozen? ⟨b, o, none⟩ = W.frozen? ⟨b, o, none⟩) :=
  ⟨fun b o h => hb.cell (p := ⟨b, o, none⟩) h, fun b o h => hb.frozen (p := ⟨b, o, none⟩) h⟩

set_option maxHeartbeats 400000 in
theorem variables_any (n : Int) (A : Option Addr) (l c : Nat) (w : World) (h0 : 0 ≤ n) (h1 : n ≤ 2000) (hl : l ≤ 1000000) :
    Calls Try.prog 71 #[.agg #[.int .i64 n, .slice A l c]] w fun e w' => e = .returned (.int .i64 (1 + n + l)) ∧ Below w.heap.size w w' := by
  go_enter Try.func71, Try.ntmps71
  go_wp2
  go_ret
  exact ⟨rfl, (Below.refl _ _).alloc (Nat.le_refl _) _⟩

set_option maxHeartbeats 400000 in
theorem refVars_any (n : Int) (A : Option Addr) (l c : Nat) (w : World) (h0 : 0 ≤ n) (h1 : n ≤ 2000) (hl : l ≤ 1000000) :
    Calls Try.prog 26 #[.agg #[.int .i64 n, .slice A l c]] w fun e w' => e = .returned (.int .i64 (n + 1 + l)) ∧ Below w.heap.size w w' := by
  go_enter Try.func26, Try.ntmps26
  go_wp2
  go_ret
  exact ⟨rfl, (Below.refl _ _).alloc (Nat.le_refl _) _⟩

set_option maxHeartbeats 400000 in
theorem variable_any (a : Int) (w : World) (h0 : 0 ≤ a) (h1 : a ≤ 9223372036854775807) :
    Calls Try.prog 77 #[.int .i64 a] w fun e w' => e = .returned (.int .i64 (a / 2)) ∧ w = w' := by
  go_enter Try.func77, Try.ntmps77
  go_wp2
  go_ret
  exact ⟨rfl, rfl⟩

set_option maxHeartbeats 1000000 in
theorem lit_any (n : Int) (A : Option Addr) (l c : Nat) (x : Int) (w : World) (hl : l ≤ 1000000) :
    Calls Try.prog 58 #[.agg #[.int .i64 n, .slice A l c], .int .i64 x] w fun e w' => e = .returned (.bool (Gm.litB n l x)) ∧ Below w.heap.size w w' := by
  by_cases h0 : 0 ≤ n
  · by_cases h1 : n ≤ 2000
    · by_cases h2 : 0 ≤ x
      · have e : Gm.litB n l x = decide (x < 2 * (1 + n + l)) := by simp [Gm.litB, h0, h1, h2]
        rw [e]
        clear e
        go_enter Try.func58, Try.ntmps58
        go_wp2_with (go_at_call 71; refine (variables_any _ _ _ _ _ h0 h1 hl).mono ?_; rintro e w' ⟨rfl, hb⟩)
        go_ret
        exact ⟨rfl, ((Below.refl _ _).alloc (Nat.le_refl _) _).trans (hb.mono (by simp))⟩
      · have e : Gm.litB n l x = false := by simp [Gm.litB, h2]
        rw [e]
        clear e
        go_enter Try.func58, Try.ntmps58
        go_wp2_with fail
        go_ret
        exact ⟨rfl, (Below.refl _ _).alloc (Nat.le_refl _) _⟩
    · have e : Gm.litB n l x = false := by simp [Gm.litB, h1]
      rw [e]
      clear e
      go_enter Try.func58, Try.ntmps58
      go_wp2_with fail
      go_ret
      exact ⟨rfl, (Below.refl _ _).alloc (Nat.le_refl _) _⟩
  · have e : Gm.litB n l x = false := by simp [Gm.litB, h0]
    rw [e]
    clear e
    go_enter Try.func58, Try.ntmps58
    go_wp2_with fail
    go_ret
    exact ⟨rfl, (Below.refl _ _).alloc (Nat.le_refl _) _⟩

set_option maxHeartbeats 1000000 in
theorem fits_any (n : Int) (A : Option Addr) (l c : Nat) (w : World) (hl : l ≤ 1000000) :
    Calls Try.prog 72 #[.agg #[.int .i64 n, .slice A l c]] w fun e w' => e = .returned (.bool (Gm.fitB n l)) ∧ Below w.heap.size w w' := by
  by_cases h0 : 0 ≤ n
  · by_cases h1 : n ≤ 2000
    · have e : Gm.fitB n l = decide (1 + n + l ≤ 2000) := by simp [Gm.fitB, h0, h1]
      rw [e]
      clear e
      go_enter Try.func72, Try.ntmps72
      go_wp2_with (go_at_call 71; refine (variables_any _ _ _ _ _ h0 h1 hl).mono ?_; rintro e w' ⟨rfl, hb⟩)
      go_ret
      exact ⟨rfl, ((Below.refl _ _).alloc (Nat.le_refl _) _).trans (hb.mono (by simp))⟩
    · have e : Gm.fitB n l = false := by simp [Gm.fitB, h1]
      rw [e]
      clear e
      go_enter Try.func72, Try.ntmps72
      go_wp2_with fail
      go_ret
      exact ⟨rfl, (Below.refl _ _).alloc (Nat.le_refl _) _⟩
  · have e : Gm.fitB n l = false := by simp [Gm.fitB, h0]
    rw [e]
    clear e
    go_enter Try.func72, Try.ntmps72
    go_wp2_with fail
    go_ret
    exact ⟨rfl, (Below.refl _ _).alloc (Nat.le_refl _) _⟩

set_option maxHeartbeats 1000000 in
theorem refLit_any (n : Int) (A : Option Addr) (l c : Nat) (x : Int) (w : World) (hl : l ≤ 1000000) (hx : x ≤ 9223372036854775807) :
    Calls Try.prog 41 #[.agg #[.int .i64 n, .slice A l c], .int .i64 x] w fun e w' => e = .returned (.bool (Gm.litB n l x)) ∧ Below w.heap.size w w' := by
  by_cases h0 : 0 ≤ n
  · by_cases h1 : n ≤ 2000
    · by_cases h2 : 0 ≤ x
      · have e : Gm.litB n l x = decide (x / 2 < n + 1 + l) := by simp [Gm.litB, h0, h1, h2]; omega
        rw [e]
        clear e
        go_enter Try.func41, Try.ntmps41
        go_wp2_with (go_at_call 26; refine (refVars_any _ _ _ _ _ h0 h1 hl).mono ?_; rintro e w' ⟨rfl, hb⟩)
        go_ret
        exact ⟨rfl, ((Below.refl _ _).alloc (Nat.le_refl _) _).trans (hb.mono (by simp))⟩
      · have e : Gm.litB n l x = false := by simp [Gm.litB, h2]
        rw [e]
        clear e
        go_enter Try.func41, Try.ntmps41
        go_wp2_with fail
        go_ret
        exact ⟨rfl, (Below.refl _ _).alloc (Nat.le_refl _) _⟩
    · have e : Gm.litB n l x = false := by simp [Gm.litB, h1]
      rw [e]
      clear e
      go_enter Try.func41, Try.ntmps41
      go_wp2_with fail
      go_ret
      exact ⟨rfl, (Below.refl _ _).alloc (Nat.le_refl _) _⟩
  · have e : Gm.litB n l x = false := by simp [Gm.litB, h0]
    rw [e]
    clear e
    go_enter Try.func41, Try.ntmps41
    go_wp2_with fail
    go_ret
    exact ⟨rfl, (Below.refl _ _).alloc (Nat.le_refl _) _⟩
end Go.Proofs.Yteabffdddlihnaa
