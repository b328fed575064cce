/- Plain mathematics of package graph: what the document says of graphs, literals and And, Or, Ite, as functions on lists of pairs. -/
import Derived.Test.YtpejilhdhkmcjaaGreatDoorJaAl
import Derived.WalkKit
import Derived.Test.YtpejilhdhkmcjaaGreatDoorRows
import Derived.WalkSpells
import Derived.WalkLawsBesides
import Derived.BigQuiet
import Derived.Deep.QuietTactic
import Derived.Deep.RegionHeld3
import Derived.Lib.Hide
namespace Go.Proofs.YtpejilhdhkmcjaaGreatDoor.Gm

def litB (n : Int) (len : Nat) (l : Int) : Bool := decide (0 ≤ n) && decide (n ≤ 2000) && decide (0 ≤ l) && decide (l < 2 * (1 + n + len))
def gateB (n : Int) (i : Nat) (g : Int × Int) : Bool := decide (2 ≤ g.2) && decide (g.2 / 2 < g.1 / 2) && decide (g.1 / 2 < n + 1 + i)
def ordB (n : Int) : Nat → List (Int × Int) → Bool
 | _, [] => true
 | i, g :: r => gateB n i g && ordB n (i + 1) r
def fitB (n : Int) (len : Nat) : Bool := decide (0 ≤ n) && decide (n ≤ 2000) && decide (1 + n + len ≤ 2000)
def nodB (gs : List (Int × Int)) : Bool := decide gs.Nodup
def rightB (n : Int) (gs : List (Int × Int)) : Bool := fitB n gs.length && ordB n 0 gs && nodB gs
/-- A graph, a literal, an error. -/
abbrev Res := (Int × List (Int × Int)) × Int × Int
def bad (e : Int) : Res := ((0, []), 0, e)
def negB (a : Int) : Int := if a % 2 = 0 then a + 1 else a - 1
def simpleS (a b : Int) : Option Int :=
 if a = 0 ∨ b = 0 ∨ a = negB b then some 0 else if a = 1 then some b else if b = 1 ∨ a = b then some a else none
def andS (n : Int) (gs : List (Int × Int)) (a b : Int) : Res :=
 if rightB n gs = true ∧ litB n gs.length a = true ∧ litB n gs.length b = true then
  match simpleS a b with
  | some l => ((n, gs), l, 0)
  | none =>
   if gs.idxOf (max a b, min a b) < gs.length then ((n, gs), 2 * (1 + n + gs.idxOf (max a b, min a b)), 0)
   else if 1 + n + gs.length = 2000 then bad 2
   else ((n, gs ++ [(max a b, min a b)]), 2 * (1 + n + gs.length), 0)
 else bad 1
theorem ordB_snoc (n : Int) (gs : List (Int × Int)) (g : Int × Int) (i : Nat) : ordB n i (gs ++ [g]) = (ordB n i gs && gateB n (i + gs.length) g) := by
 induction gs generalizing i with
 | nil => simp [ordB]
 | cons h t ih => simp [ordB, ih, Bool.and_assoc, Nat.add_comm, Nat.add_left_comm]
theorem ordB_get (n : Int) (gs : List (Int × Int)) (i k : Nat) (h : ordB n i gs = true) (hk : k < gs.length) : gateB n (i + k) gs[k] = true := by
 induction gs generalizing i k with
 | nil => simp at hk
 | cons x t ih =>
  simp [ordB] at h
  cases k with
  | zero => simpa using h.1
  | succ k =>
   have := ih (i + 1) k h.2 (by simpa using hk)
   simpa [Nat.add_comm, Nat.add_left_comm] using this
theorem ordB_false (n : Int) (gs : List (Int × Int)) (i k : Nat) (hk : k < gs.length) (h : gateB n (i + k) gs[k] = false) : ordB n i gs = false := by
 cases hb : ordB n i gs with
 | false => rfl
 | true => rw [ordB_get n gs i k hb hk] at h; cases h
theorem ordB_take (n : Int) (gs : List (Int × Int)) (k : Nat) (hk : k < gs.length) : ordB n 0 (gs.take (k + 1)) = (ordB n 0 (gs.take k) && gateB n k gs[k]) := by
 rw [List.take_succ_eq_append_getElem hk, ordB_snoc]
 simp [Nat.min_eq_left (Nat.le_of_lt hk)]
theorem nod_take (gs : List (Int × Int)) (k : Nat) (hk : k < gs.length) : (gs.take (k + 1)).Nodup ↔ (gs.take k).Nodup ∧ gs[k] ∉ gs.take k := by
 rw [List.take_succ_eq_append_getElem hk, List.nodup_append]
 constructor
 ·
  rintro ⟨h1, _, h3⟩
  exact ⟨h1, fun hm => h3 _ hm _ (by simp) rfl⟩
 rintro ⟨h1, h2⟩
 refine ⟨h1, by simp, ?_⟩
 intro a ha b hb
 simp at hb
 subst hb
 intro e
 subst e
 exact h2 ha
theorem ofInt_i64 (a : Nat) (ha : a < 9223372036854775808) : (BitVec.ofInt 64 (a : Int)).toNat = a := by
 rw [BitVec.ofInt_natCast, BitVec.toNat_ofNat]; exact Nat.mod_eq_of_lt (by omega)
theorem i64_and_nat (a b : Nat) (ha : a < 9223372036854775808) (hb : b < 9223372036854775808) : bits .and .i64 (a : Int) (b : Int) = ((a &&& b : Nat) : Int) := by
 have hx : a &&& b < 2 ^ 63 := Nat.and_lt_two_pow _ (by omega)
 show IntKind.i64.wrap ((BitVec.ofInt 64 (a : Int) &&& BitVec.ofInt 64 (b : Int)).toNat : Int) = _
 rw [BitVec.toNat_and, ofInt_i64 a ha, ofInt_i64 b hb, IntKind.wrap_i64]
 omega
end Go.Proofs.YtpejilhdhkmcjaaGreatDoor.Gm
/- Small functions of package graph and of the reference: variables, negated, variable, literal, Vars, Lit. -/
namespace Go.Proofs.YtpejilhdhkmcjaaGreatDoor
open Go.RowKit

theorem bcell {W w1 : World} (hb : Below W.heap.size W w1) : (∀ b o, b < W.heap.size → w1.cell? ⟨b, o, none⟩ = W.cell? ⟨b, o, none⟩) ∧ (∀ b o, b < W.heap.size → w1.frozen? ⟨b, o, none⟩ = W.frozen? ⟨b, o, none⟩) :=
 ⟨fun b o h => hb.cell (p := ⟨b, o, none⟩) h, fun b o h => hb.frozen (p := ⟨b, o, none⟩) h⟩

set_option maxHeartbeats 400000 in
theorem variables_any (n : Int) (A : Option Addr) (l c : Nat) (w : World) (h0 : 0 ≤ n) (h1 : n ≤ 2000) (hl : l ≤ 1000000) :
  Calls Tryz.prog 98 #[.agg #[.int .i64 n, .slice A l c]] w fun e w' => e = .returned (.int .i64 (1 + n + l)) ∧ Below w.heap.size w w' := by
 go_enter Tryz.func98, Tryz.ntmps98
 go_wp2
 go_ret
 exact ⟨rfl, (Below.refl _ _).alloc (Nat.le_refl _) _⟩

set_option maxHeartbeats 400000 in
theorem refVars_any (n : Int) (A : Option Addr) (l c : Nat) (w : World) (h0 : 0 ≤ n) (h1 : n ≤ 2000) (hl : l ≤ 1000000) :
  Calls Tryz.prog 36 #[.agg #[.int .i64 n, .slice A l c]] w fun e w' => e = .returned (.int .i64 (n + 1 + l)) ∧ Below w.heap.size w w' := by
 go_enter Tryz.func36, Tryz.ntmps36
 go_wp2
 go_ret
 exact ⟨rfl, (Below.refl _ _).alloc (Nat.le_refl _) _⟩

set_option maxHeartbeats 400000 in
theorem variable_any (a : Int) (w : World) (h0 : 0 ≤ a) (h1 : a ≤ 9223372036854775807) :
  Calls Tryz.prog 109 #[.int .i64 a] w fun e w' => e = .returned (.int .i64 (a / 2)) ∧ w = w' := by
 go_enter Tryz.func109, Tryz.ntmps109
 go_wp2
 go_ret
 exact ⟨rfl, rfl⟩

set_option maxHeartbeats 1000000 in
theorem lit_any (n : Int) (A : Option Addr) (l c : Nat) (x : Int) (w : World) (hl : l ≤ 1000000) :
  Calls Tryz.prog 75 #[.agg #[.int .i64 n, .slice A l c], .int .i64 x] w fun e w' => e = .returned (.bool (Gm.litB n l x)) ∧ Below w.heap.size w w' := by
 by_cases h0 : 0 ≤ n
 ·
  by_cases h1 : n ≤ 2000
  ·
   by_cases h2 : 0 ≤ x
   ·
    have e : Gm.litB n l x = decide (x < 2 * (1 + n + l)) := by simp [Gm.litB, h0, h1, h2]
    rw [e]
    clear e
    go_enter Tryz.func75, Tryz.ntmps75
    go_wp2_with (go_at_call 98; refine (variables_any _ _ _ _ _ h0 h1 hl).mono ?_; rintro e w' ⟨rfl, hb⟩)
    go_ret
    exact ⟨rfl, ((Below.refl _ _).alloc (Nat.le_refl _) _).trans (hb.mono (by simp))⟩
   have e : Gm.litB n l x = false := by simp [Gm.litB, h2]
   rw [e]
   clear e
   go_enter Tryz.func75, Tryz.ntmps75
   go_wp2_with fail
   go_ret
   exact ⟨rfl, (Below.refl _ _).alloc (Nat.le_refl _) _⟩
  have e : Gm.litB n l x = false := by simp [Gm.litB, h1]
  rw [e]
  clear e
  go_enter Tryz.func75, Tryz.ntmps75
  go_wp2_with fail
  go_ret
  exact ⟨rfl, (Below.refl _ _).alloc (Nat.le_refl _) _⟩
 have e : Gm.litB n l x = false := by simp [Gm.litB, h0]
 rw [e]
 clear e
 go_enter Tryz.func75, Tryz.ntmps75
 go_wp2_with fail
 go_ret
 exact ⟨rfl, (Below.refl _ _).alloc (Nat.le_refl _) _⟩

set_option maxHeartbeats 1000000 in
theorem fits_any (n : Int) (A : Option Addr) (l c : Nat) (w : World) (hl : l ≤ 1000000) :
  Calls Tryz.prog 95 #[.agg #[.int .i64 n, .slice A l c]] w fun e w' => e = .returned (.bool (Gm.fitB n l)) ∧ Below w.heap.size w w' := by
 by_cases h0 : 0 ≤ n
 ·
  by_cases h1 : n ≤ 2000
  ·
   have e : Gm.fitB n l = decide (1 + n + l ≤ 2000) := by simp [Gm.fitB, h0, h1]
   rw [e]
   clear e
   go_enter Tryz.func95, Tryz.ntmps95
   go_wp2_with (go_at_call 98; refine (variables_any _ _ _ _ _ h0 h1 hl).mono ?_; rintro e w' ⟨rfl, hb⟩)
   go_ret
   exact ⟨rfl, ((Below.refl _ _).alloc (Nat.le_refl _) _).trans (hb.mono (by simp))⟩
  have e : Gm.fitB n l = false := by simp [Gm.fitB, h1]
  rw [e]
  clear e
  go_enter Tryz.func95, Tryz.ntmps95
  go_wp2_with fail
  go_ret
  exact ⟨rfl, (Below.refl _ _).alloc (Nat.le_refl _) _⟩
 have e : Gm.fitB n l = false := by simp [Gm.fitB, h0]
 rw [e]
 clear e
 go_enter Tryz.func95, Tryz.ntmps95
 go_wp2_with fail
 go_ret
 exact ⟨rfl, (Below.refl _ _).alloc (Nat.le_refl _) _⟩

set_option maxHeartbeats 1000000 in
theorem refLit_any (n : Int) (A : Option Addr) (l c : Nat) (x : Int) (w : World) (hl : l ≤ 1000000) (hx : x ≤ 9223372036854775807) :
  Calls Tryz.prog 57 #[.agg #[.int .i64 n, .slice A l c], .int .i64 x] w fun e w' => e = .returned (.bool (Gm.litB n l x)) ∧ Below w.heap.size w w' := by
 by_cases h0 : 0 ≤ n
 ·
  by_cases h1 : n ≤ 2000
  ·
   by_cases h2 : 0 ≤ x
   ·
    have e : Gm.litB n l x = decide (x / 2 < n + 1 + l) := by simp [Gm.litB, h0, h1, h2]; omega
    rw [e]
    clear e
    go_enter Tryz.func57, Tryz.ntmps57
    go_wp2_with (go_at_call 36; refine (refVars_any _ _ _ _ _ h0 h1 hl).mono ?_; rintro e w' ⟨rfl, hb⟩)
    go_ret
    exact ⟨rfl, ((Below.refl _ _).alloc (Nat.le_refl _) _).trans (hb.mono (by simp))⟩
   have e : Gm.litB n l x = false := by simp [Gm.litB, h2]
   rw [e]
   clear e
   go_enter Tryz.func57, Tryz.ntmps57
   go_wp2_with fail
   go_ret
   exact ⟨rfl, (Below.refl _ _).alloc (Nat.le_refl _) _⟩
  have e : Gm.litB n l x = false := by simp [Gm.litB, h1]
  rw [e]
  clear e
  go_enter Tryz.func57, Tryz.ntmps57
  go_wp2_with fail
  go_ret
  exact ⟨rfl, (Below.refl _ _).alloc (Nat.le_refl _) _⟩
 have e : Gm.litB n l x = false := by simp [Gm.litB, h0]
 rw [e]
 clear e
 go_enter Tryz.func57, Tryz.ntmps57
 go_wp2_with fail
 go_ret
 exact ⟨rfl, (Below.refl _ _).alloc (Nat.le_refl _) _⟩
end Go.Proofs.YtpejilhdhkmcjaaGreatDoor
